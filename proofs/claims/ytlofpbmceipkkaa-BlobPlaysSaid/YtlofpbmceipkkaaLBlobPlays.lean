/-
  P7.1 to P7.3: whatever is written, copied, read in part and given back, the store is as the chapter says: the law answers true for every input, and its arguments read behind the call as before. No condition beside the row's own.
-/
import Derived.Test.YtlofpbmceipkkaaM37
namespace Go.Proofs.Ytlofpbmceipkkaa.blobPlays
open Go.ChangeShapes Go.WideShapes Go.ChangeAt Go.RowKit Wal Blob

theorem own : ownKnob Try.prog.godebug = none := by kernel_rfl
theorem laidOut : laidOutB Try.prog = true := by kernel_rfl
set_option maxRecDepth 100000 in
set_option maxHeartbeats 6400000 in
theorem walk (x : Nat) (hx : x < 256) (A : Option Addr) (n c : Nat) (l : Nat → OB) (w : World) (hl : BOps w A n l) (hn : n ≤ 9223372036854775807) :
    Calls Try.prog 3 #[.int .u8 (x : Int), .slice A n c] w fun e w' => e = .returned (.bool true) ∧ Below w.heap.size w w' := by
  have FX := fun w => Lib.hid (fixed_any w)
  have HL := Lib.hid hl
  obtain ⟨n3, hn3⟩ : ∃ n3 : Nat, n3 = 3 * x := ⟨_, rfl⟩
  have n34 : n3 ≤ 4096 := by omega
  have e3 : 3 * (x : Int) = (n3 : Int) := by omega
  clear hl hn3
  go_enter Try.func3, Try.ntmps3
  go_wp2_with fail
  refine (FX _).out.mono ?_
  rintro e w1 ⟨rfl, hb1⟩
  have B1 := Lib.hid hb1
  clear hb1
  by_cases c60 : 60 < n
  · have i60 : (60 : Int) < (n : Int) := by omega
    go_wp2_with fail
    refine (FX _).out.mono ?_
    rintro e w2 ⟨rfl, hb2⟩
    have B2 : Hid (Below w.heap.size w w2) := B1.out.trans (hb2.mono B1.out.size)
    clear hb2
    go_wp2_with fail
    go_ret
    exact ⟨rfl, B2.out⟩
  have i60 : ¬ (60 : Int) < (n : Int) := by omega
  have NM := Lib.hid (newmem_any w.heap.size w1 B1.out.size (n3 : Int))
  rw [capN_of n34] at NM
  clear FX
  go_wp2_with fail
  refine NM.out.mono ?_
  rintro e w2 ⟨p, rfl, hp, hm, hb⟩
  have B2 : Hid (Below w.heap.size w w2) := B1.out.trans (hb.mono B1.out.size)
  have M2 := Lib.hid hm
  clear hm hb hp NM e3
  go_wp2_with fail
  go_loopw [7, 8] (fun v i wr => ∃ (k : Nat) (bl : List BL) (f : Nat → Option KB), k ≤ n ∧ bl.length ≤ k ∧ i = .int .i64 k ∧ Hid (MemAt w.heap.size wr p n3 f ∧ Below w.heap.size w wr ∧ OwnH wr w.heap.size v bl ∧ Good n3 f bl)) (fun _ i _ => n - (intOf i).toNat)
  case atStart => exact ⟨0, [], fun _ => none, by omega, by simp, rfl, M2.out, B2.out, OwnH.nil _ _, Good.nil _⟩
  case round =>
    obtain ⟨k, bl, f, hk, hbk, rfl, G⟩ := hrel
    obtain ⟨A1, c1, rfl, hcap, _⟩ := G.out.2.2.1.any
    by_cases hlt : k < n
    · have lk : (k : Int) < (n : Int) := by omega
      obtain ⟨b, off, rfl, hbl, hcc⟩ := HL.out.2 (by omega)
      have og := HL.out.1 k hlt
      have h0 : w.cell? ⟨b, off + k * 5, none⟩ = some (.int .u8 ((l k).kind : Int)) := hcc k hlt 0 (by omega)
      have h1 : w.cell? ⟨b, off + k * 5 + 1, none⟩ = some (.string (l k).data) := hcc k hlt 1 (by omega)
      have h2 : w.cell? ⟨b, off + k * 5 + 2, none⟩ = some (.int .i64 (l k).i) := hcc k hlt 2 (by omega)
      have h3 : w.cell? ⟨b, off + k * 5 + 3, none⟩ = some (.int .i64 (l k).fr) := hcc k hlt 3 (by omega)
      have h4 : w.cell? ⟨b, off + k * 5 + 4, none⟩ = some (.int .i64 (l k).n) := hcc k hlt 4 (by omega)
      obtain ⟨o, ho⟩ : ∃ o, o = l k := ⟨_, rfl⟩
      rw [← ho] at og h0 h1 h2 h3 h4
      obtain ⟨kd, ds, ii, fr, nn⟩ := o
      obtain ⟨g0, g1, g2, g3, g4⟩ := og
      dsimp only at g0 g1 g2 g3 g4 h0 h1 h2 h3 h4
      have DSH := Lib.hid g1
      have BW := G.out.2.1
      have x0 := (BW.cell (p := ⟨b, off + k * 5, none⟩) hbl).trans h0
      have x1 := (BW.cell (p := ⟨b, off + k * 5 + 1, none⟩) hbl).trans h1
      have x2 := (BW.cell (p := ⟨b, off + k * 5 + 2, none⟩) hbl).trans h2
      have x3 := (BW.cell (p := ⟨b, off + k * 5 + 3, none⟩) hbl).trans h3
      have x4 := (BW.cell (p := ⟨b, off + k * 5 + 4, none⟩) hbl).trans h4
      clear ho BW h0 h1 h2 h3 h4 hcc g1
      go_upto_region 10 with fail
      obtain ⟨q, hq⟩ : ∃ q, q = wr.heap.size := ⟨_, rfl⟩
      obtain ⟨wq, hwq⟩ : ∃ wq, wq = wr.alloc (.cells #[.int .u8 (kd : Int), .string ds, .int .i64 ii, .int .i64 fr, .int .i64 nn] 28) := ⟨_, rfl⟩
      have hbq : Below wr.heap.size wr wq := by rw [hwq]; exact (Below.refl _ _).alloc (Nat.le_refl _) _
      have GQ : Hid (MemAt w.heap.size wq p n3 f ∧ Below w.heap.size w wq ∧ OwnH wq w.heap.size (.slice A1 bl.length c1) bl ∧ Good n3 f bl) := ⟨G.out.1.under hbq, G.out.2.1.trans (hbq.mono G.out.2.1.size), G.out.2.2.1.kp (Kp.under (B := w.heap.size) hbq), G.out.2.2.2⟩
      have HQ : Hid (Held wq q 28 #[.int .u8 (kd : Int), .string ds, .int .i64 ii, .int .i64 fr, .int .i64 nn]) := by rw [hwq]; exact Held.new _ _ _ hq
      have HQA : ∀ (J : Nat) (hJ : J < bl.length), ∃ g off, A1 = some ⟨g, off, none⟩ ∧ wq.cell? ⟨g, off + J * 2, none⟩ = some (.int .i64 (bl[J].h : Int)) ∧ wq.cell? ⟨g, off + J * 2 + 1, none⟩ = some (strV bl[J].l) := by
        obtain ⟨A9, c9, e9, _, ha9⟩ := GQ.out.2.2.1.any
        injection e9 with e1 e3 e2
        subst e1
        exact fun J hJ => ha9.at_ hJ
      have HQA := Lib.hid HQA
      rw [← hwq, ← hq]
      have QN : Hid (w.heap.size ≤ q) := by rw [hq]; exact G.out.2.1.size
      have z0 := HQ.out.cell 0
      have z1 := HQ.out.cell 1
      have z2 := HQ.out.cell 2
      have z3 := HQ.out.cell 3
      have z4 := HQ.out.cell 4
      clear hwq hq hbq G x0 x1 x2 x3 x4
      obtain ⟨κ, hκ⟩ : ∃ κ, κ = kd % 4 := ⟨_, rfl⟩
      have hm1 : ((kd : Int)).tmod 4 = (κ : Int) := by
        rw [Int.tmod_eq_emod_of_nonneg (by omega)]
        omega
      have hκ4 : κ < 4 := by rw [hκ]; exact Nat.mod_lt _ (by omega)
      clear hκ
      by_cases cl : 0 < bl.length
      · have l0 : (0 : Int) < (bl.length : Int) := by omega
        by_cases ci : 0 ≤ ii
        · obtain ⟨I, rfl⟩ : ∃ I : Nat, ii = (I : Int) := ⟨ii.toNat, by omega⟩
          obtain ⟨J, hKd⟩ : ∃ J, J = I % bl.length := ⟨_, rfl⟩
          have hJ : J < bl.length := by rw [hKd]; exact Nat.mod_lt _ cl
          have hm2 : (I : Int).tmod (bl.length : Int) = (J : Int) := by rw [Int.tmod_eq_emod_of_nonneg (by omega), hKd]; exact (Int.natCast_emod _ _).symm
          have kn : ¬ (J : Int) < 0 := by omega
          have kl : (J : Int) < (bl.length : Int) := by omega
          have bn : ¬ (bl.length : Int) = 0 := by omega
          clear hKd
          have hκ : κ = 0 ∨ κ = 1 ∨ κ = 2 ∨ κ = 3 := by omega
          rcases hκ with rfl | rfl | rfl | rfl
          · skip
            have TX := Lib.hid (text_some wq ds DSH.out nn)
            go_wp2_with fail
            refine TX.out.mono ?_
            rintro e w5 ⟨lt, rfl, ht8, htm, hb5⟩
            have S5 := Nat.le_trans GQ.out.2.1.size hb5.size
            have PU := Lib.hid (put_any w.heap.size w5 S5 p n3 (by omega) f (GQ.out.1.under hb5) bl _ (GQ.out.2.2.1.kp (Kp.under (B := w.heap.size) hb5)) GQ.out.2.2.2 (by omega) lt ht8 htm (-1) (.inl rfl))
            have B5 : Hid (Below w.heap.size w w5) := GQ.out.2.1.trans (hb5.mono GQ.out.2.1.size)
            clear hb5 TX ht8 htm
            unfold strV at PU
            unfold strV
            go_wp2_with fail
            refine PU.out.mono ?_
            rintro e w6 ⟨v6, bl6, f6, rfl, o6, g6, m6, b6, n6⟩
            have F : Hid (MemAt w.heap.size w6 p n3 f6 ∧ Below w.heap.size w w6 ∧ OwnH w6 w.heap.size v6 bl6 ∧ Good n3 f6 bl6) := ⟨m6, B5.out.trans b6, o6, g6⟩
            clear PU

            clear o6 g6 m6 b6
            go_wp2_with fail
            go_roundw
            case rel => exact ⟨k + 1, bl6, f6, by omega, by omega, by go_num, F⟩
            case measure => simp [intOf] <;> omega
          · obtain ⟨g, off2, e9, ch, cc⟩ := HQA.out J hJ
            subst e9
            have FR := Lib.hid (bfree_all w.heap.size wq p n3 f GQ.out.1 bl[J].h bl[J].parts bl[J].l (GQ.out.2.2.2.each bl[J] (List.getElem_mem hJ)))
            have LS := Lib.hid (GQ.out.2.2.2.less GQ.out.1.lt_ hJ)
            unfold sto at FR
            generalize wipe f (allB bl[J].h bl[J].parts) = f5 at *
            generalize bl[J].h = hh at *
            go_wp2_with fail
            refine FR.out.mono ?_
            rintro e w5 ⟨rfl, m5, k5⟩
            have M5 := Lib.hid m5
            have O5 := Lib.hid (GQ.out.2.2.1.kp k5)
            have B5 : Hid (Below w.heap.size w w5) := GQ.out.2.1.trans (k5.below GQ.out.2.1.size)
            have S5 : Hid (w.heap.size ≤ w5.heap.size) := B5.out.size
            have H5 : Hid (HAt w5 (some ⟨g, off2, none⟩) bl) := by
              obtain ⟨A5, c5, e5, _, ha5⟩ := O5.out.any
              injection e5 with e1 e3 e2
              subst e1
              exact ha5
            clear m5 k5 FR cc
            go_upto_region 20 with (at_builtin; refine wpList_append_h rfl (.tmp 86) (.tmp 89) rfl w.heap.size _ _ rfl (OwnH.nil _ _) (some ⟨g, off2, none⟩) J c1 (bl.take J) rfl (by rw [List.length_take]; omega) (H5.out.take_ J) (by simp; omega) S5.out ?_; intro v6 w6 q1 q2; have q3 : w5.grownBy w6 none := q2; rw [List.nil_append] at q1; clear q2)
            have O6 := Lib.hid q1
            obtain ⟨A6, c6, rfl, _, _⟩ := q1.any
            have B6 : Hid (Below w5.heap.size w5 w6) := (Below.refl _ _).grown q3 (Nat.le_refl _) (fun x hx => by cases hx)
            have M6 := Lib.hid (M5.out.under B6.out)
            have S6 : Hid (w.heap.size ≤ w6.heap.size) := Nat.le_trans S5.out B6.out.size
            have H6 := Lib.hid (H5.out.below B6.out)
            clear q1 q3
            by_cases cx : c1 = J + 1
            · subst cx
              have D0 : bl.drop (J + 1) = [] := List.drop_eq_nil_of_le hcap
              have D0H := Lib.hid D0
              have bx : bl.length - (J + 1) = 0 := by omega
              clear D0
              go_wp2_with (at_builtin; refine wpList_append_h rfl (.tmp 91) (.tmp 95) rfl w.heap.size _ _ rfl O6.out (some ⟨g, off2, none⟩) _ _ [] rfl (by first | rfl | omega | (simp; done) | (simp; omega)) (fun h => absurd h (Nat.lt_irrefl 0)) (by rw [List.length_take]; omega) S6.out ?_; intro v6 w7 o6 q2)
              have F : Hid (MemAt w.heap.size w7 p n3 f5 ∧ Below w.heap.size w w7 ∧ OwnH w7 w.heap.size v6 (bl.take J ++ bl.drop (J + 1)) ∧ Good n3 f5 (bl.take J ++ bl.drop (J + 1))) := ⟨M6.out.grownH_ O6.out q2, (B5.out.trans (B6.out.mono S5.out)).grown q2 S6.out (fun x hx => (O6.out.lt x hx).1), by rw [D0H.out]; exact o6, LS.out⟩
              clear o6 q2
              go_wp2_with fail
              go_roundw
              case rel => exact ⟨k + 1, _, f5, by omega, by simp; omega, by go_num, F⟩
              case measure => simp [intOf] <;> omega
            · have cx2 : ¬ (c1 : Int) = (J : Int) + 1 := by omega
              go_wp2_with (at_builtin; refine wpList_append_h rfl (.tmp 91) (.tmp 95) rfl w.heap.size _ _ rfl O6.out (some ⟨g, off2 + (J + 1) * 2, none⟩) _ _ (bl.drop (J + 1)) rfl (by rw [List.length_drop]) (H6.out.drop_ (J + 1)) (by simp; omega) S6.out ?_; intro v6 w7 o6 q2)
              have F : Hid (MemAt w.heap.size w7 p n3 f5 ∧ Below w.heap.size w w7 ∧ OwnH w7 w.heap.size v6 (bl.take J ++ bl.drop (J + 1)) ∧ Good n3 f5 (bl.take J ++ bl.drop (J + 1))) := ⟨M6.out.grownH_ O6.out q2, (B5.out.trans (B6.out.mono S5.out)).grown q2 S6.out (fun x hx => (O6.out.lt x hx).1), o6, LS.out⟩
              clear o6 q2
              go_wp2_with fail
              go_roundw
              case rel => exact ⟨k + 1, _, f5, by omega, by simp; omega, by go_num, F⟩
              case measure => simp [intOf] <;> omega
          · obtain ⟨g, off2, e9, ch, cc⟩ := HQA.out J hJ
            subst e9
            have TH := GQ.out.2.2.2.each bl[J] (List.getElem_mem hJ)
            have PU := Lib.hid (put_any w.heap.size wq GQ.out.2.1.size p n3 (by omega) f GQ.out.1 bl _ GQ.out.2.2.1 GQ.out.2.2.2 (by omega) bl[J].l TH.bytes (Nat.le_trans TH.most (by decide)) (J : Int) (.inr ⟨J, hJ, rfl, rfl⟩))
            clear TH
            unfold strV at PU cc
            generalize bl[J].l = lk at *
            go_wp2_with fail
            refine PU.out.mono ?_
            rintro e w6 ⟨v6, bl6, f6, rfl, o6, g6, m6, b6, n6⟩
            have F : Hid (MemAt w.heap.size w6 p n3 f6 ∧ Below w.heap.size w w6 ∧ OwnH w6 w.heap.size v6 bl6 ∧ Good n3 f6 bl6) := ⟨m6, GQ.out.2.1.trans b6, o6, g6⟩
            clear PU

            clear o6 g6 m6 b6
            go_wp2_with fail
            go_roundw
            case rel => exact ⟨k + 1, bl6, f6, by omega, by omega, by go_num, F⟩
            case measure => simp [intOf] <;> omega
          · obtain ⟨g, off2, e9, ch, cc⟩ := HQA.out J hJ
            subst e9
            have TH := GQ.out.2.2.2.each bl[J] (List.getElem_mem hJ)
            obtain ⟨hh, hhh⟩ : ∃ hh, bl[J].h = hh := ⟨_, rfl⟩
            obtain ⟨lk, hlk⟩ : ∃ lk, bl[J].l = lk := ⟨_, rfl⟩
            have HH := Lib.hid hhh
            have LK := Lib.hid hlk
            rw [hhh] at TH ch
            rw [hlk] at TH cc
            unfold strV at cc
            clear hhh hlk
            by_cases cf : 0 ≤ fr ∧ 0 ≤ nn
            · obtain ⟨a, rfl⟩ : ∃ a : Nat, fr = (a : Int) := ⟨fr.toNat, by omega⟩
              obtain ⟨m, rfl⟩ : ∃ m : Nat, nn = (m : Int) := ⟨nn.toNat, by omega⟩
              have RD := Lib.hid (breadat_all w.heap.size wq.drew p n3 f (GQ.out.1.under (Below.refl _ _).drew) hh bl[J].parts lk TH a m)
              have PA := Lib.hid (fun wd => part_any wd lk TH.bytes (Nat.le_trans TH.most (by decide)) a m)
              unfold sto strV at RD
              unfold strV at PA
              have an : ¬ (a : Int) < 0 := by omega
              have mn : ¬ (m : Int) < 0 := by omega
              clear TH cf
              go_upto_region 24 with fail
              refine wp_region_held_drew (S := fun w' => w'.cell? ⟨g, off2 + J * 2, none⟩ = some (.int .i64 (hh : Int)) ∧ w'.cell? ⟨q, 3, none⟩ = some (.int .i64 (a : Int)) ∧ w'.cell? ⟨q, 4, none⟩ = some (.int .i64 (m : Int))) (by kernel_rfl) ⟨ch, z3, z4⟩ (fun hHeld => ?_)
              refine take_ (i := 0) (v := ?_) 121 rfl rfl (by kernel_rfl) (by kernel_rfl) (by kernel_rfl) (fun _ _ _ h => h) (Or.inl ⟨by rfl, ?_⟩) (by assumption) ?_
              rotate_left
              · (intro wS hSw; (try dsimp only at hSw); go_simp; try with_reducible rfl)
              simp only [Act.put, List.setIfInBounds_toArray, List.set_cons_zero, List.set_cons_succ]
              refine take_ (i := 1) (v := ?_) 122 rfl rfl (by kernel_rfl) (by kernel_rfl) (by kernel_rfl) (fun _ _ _ h => h) (Or.inl ⟨by rfl, ?_⟩) (by assumption) ?_
              rotate_left
              · (intro wS hSw; (try dsimp only at hSw); go_simp; try with_reducible rfl)
              simp only [Act.put, List.setIfInBounds_toArray, List.set_cons_zero, List.set_cons_succ]
              refine take_ (i := 2) (v := ?_) 123 rfl rfl (by kernel_rfl) (by kernel_rfl) (by kernel_rfl) (fun _ _ _ h => h) (Or.inl ⟨by rfl, ?_⟩) (by assumption) ?_
              rotate_left
              · (intro wS hSw; (try dsimp only at hSw); go_simp; try with_reducible rfl)
              simp only [Act.put, List.setIfInBounds_toArray, List.set_cons_zero, List.set_cons_succ]
              refine take_ (i := 3) (v := ?_) 124 rfl rfl (by kernel_rfl) (by kernel_rfl) (by kernel_rfl) (fun _ _ _ h => h) (Or.inl ⟨by rfl, ?_⟩) (by assumption) ?_
              rotate_left
              · (intro wS hSw; (try dsimp only at hSw); go_simp; try with_reducible rfl)
              simp only [Act.put, List.setIfInBounds_toArray, List.set_cons_zero, List.set_cons_succ]
              refine take_ (i := 4) (v := ?_) 125 rfl rfl (by kernel_rfl) (by kernel_rfl) (by kernel_rfl) (fun _ _ _ h => h) (Or.inl ⟨by rfl, ?_⟩) (by assumption) ?_
              rotate_left
              · (intro wS hSw; (try dsimp only at hSw); go_simp; try with_reducible rfl)
              simp only [Act.put, List.setIfInBounds_toArray, List.set_cons_zero, List.set_cons_succ]
              refine take_ (i := 5) (v := ?_) 126 rfl rfl (by kernel_rfl) (by kernel_rfl) (by kernel_rfl) (fun _ _ _ h => h) (Or.inl ⟨by rfl, ?_⟩) (by assumption) ?_
              rotate_left
              · (intro wS hSw; (try dsimp only at hSw); go_simp; try with_reducible rfl)
              simp only [Act.put, List.setIfInBounds_toArray, List.set_cons_zero, List.set_cons_succ]
              refine take_ (i := 6) (v := ?_) 127 rfl rfl (by kernel_rfl) (by kernel_rfl) (by kernel_rfl) (fun _ _ _ h => h) (Or.inl ⟨by rfl, ?_⟩) (by assumption) ?_
              rotate_left
              · (intro wS hSw; (try dsimp only at hSw); go_simp; try with_reducible rfl)
              simp only [Act.put, List.setIfInBounds_toArray, List.set_cons_zero, List.set_cons_succ]
              refine take_ (i := 7) (v := ?_) 128 rfl rfl (by kernel_rfl) (by kernel_rfl) (by kernel_rfl) (fun _ _ _ h => h) (Or.inl ⟨by rfl, ?_⟩) (by assumption) ?_
              rotate_left
              · (intro wS hSw; (try dsimp only at hSw); go_simp; try with_reducible rfl)
              simp only [Act.put, List.setIfInBounds_toArray, List.set_cons_zero, List.set_cons_succ]
              refine take_ (i := 8) (v := ?_) 129 rfl rfl (by kernel_rfl) (by kernel_rfl) (by kernel_rfl) (fun _ _ _ h => h) (Or.inl ⟨by rfl, ?_⟩) (by assumption) ?_
              rotate_left
              · (intro wS hSw; (try dsimp only at hSw); go_simp; try with_reducible rfl)
              simp only [Act.put, List.setIfInBounds_toArray, List.set_cons_zero, List.set_cons_succ]
              refine take_ (i := 9) (v := ?_) 130 rfl rfl (by kernel_rfl) (by kernel_rfl) (by kernel_rfl) (fun _ _ _ h => h) (Or.inl ⟨by rfl, ?_⟩) (by assumption) ?_
              rotate_left
              · (intro wS hSw; (try dsimp only at hSw); go_simp; try with_reducible rfl)
              simp only [Act.put, List.setIfInBounds_toArray, List.set_cons_zero, List.set_cons_succ]
              refine take_ (i := 10) (v := ?_) 131 rfl rfl (by kernel_rfl) (by kernel_rfl) (by kernel_rfl) (fun _ _ _ h => h) (Or.inl ⟨by rfl, ?_⟩) (by assumption) ?_
              rotate_left
              · (intro wS hSw; (try dsimp only at hSw); go_simp; try with_reducible rfl)
              simp only [Act.put, List.setIfInBounds_toArray, List.set_cons_zero, List.set_cons_succ]
              refine one_ (i := 11) _ (by kernel_rfl) rfl (fun K hK => ?_)
              go_simp
              refine RD.out.mono ?_
              rintro e w5 ⟨rfl, m5, k5⟩
              have K5 : Hid (Kp w.heap.size wq w5) := (Kp.under (B := w.heap.size) (Below.refl _ _).drew).trans k5
              have M5 := Lib.hid m5
              have X5 := Lib.hid (K5.out.held HQ.out (by decide) (by decide))
              have O5 := Lib.hid (GQ.out.2.2.1.kp K5.out)
              have H5 : Hid (HAt w5 (some ⟨g, off2, none⟩) bl) := by
                obtain ⟨A5, c5, e5, _, ha5⟩ := O5.out.any
                injection e5 with e1 e3 e2
                subst e1
                exact ha5
              have C5 : w5.cell? ⟨g, off2 + J * 2, none⟩ = some (.int .i64 (hh : Int)) ∧ w5.cell? ⟨g, off2 + J * 2 + 1, none⟩ = some (.string (strB lk)) := by
                obtain ⟨g', o', e', y1, y2⟩ := H5.out.at_ hJ
                injection e' with e'
                injection e' with e1 e2
                subst e1 e2
                rw [HH.out] at y1
                rw [LK.out] at y2
                exact ⟨y1, y2⟩
              obtain ⟨ch5, cc5⟩ := C5
              clear z0 z1 z2 z3 z4 ch cc hHeld RD
              have z3 := X5.out.cell 3
              have z4 := X5.out.cell 4
              clear m5 k5
              go_wp2_with fail
              refine hK.out _ _ ⟨ch5, z3, z4⟩ (fun hHeld => ?_)
              clear hK K
              refine take_ (i := 12) (v := ?_) 120 rfl rfl (by kernel_rfl) (by kernel_rfl) (by kernel_rfl) (fun _ _ _ h => h) (Or.inl ⟨by rfl, ?_⟩) (by assumption) ?_
              rotate_left
              · (intro wS hSw; (try dsimp only at hSw); go_simp; try with_reducible rfl)
              simp only [Act.put, List.setIfInBounds_toArray, List.set_cons_zero, List.set_cons_succ]
              refine take_ (i := 13) (v := ?_) 133 rfl rfl (by kernel_rfl) (by kernel_rfl) (by kernel_rfl) (fun _ _ _ h => h) (Or.inl ⟨by rfl, ?_⟩) (by assumption) ?_
              rotate_left
              · (intro wS hSw; (try dsimp only at hSw); go_simp; try with_reducible rfl)
              simp only [Act.put, List.setIfInBounds_toArray, List.set_cons_zero, List.set_cons_succ]
              refine take_ (i := 14) (v := ?_) 134 rfl rfl (by kernel_rfl) (by kernel_rfl) (by kernel_rfl) (fun _ _ _ h => h) (Or.inl ⟨by rfl, ?_⟩) (by assumption) ?_
              rotate_left
              · (intro wS hSw; (try dsimp only at hSw); go_simp; try with_reducible rfl)
              simp only [Act.put, List.setIfInBounds_toArray, List.set_cons_zero, List.set_cons_succ]
              refine take_ (i := 15) (v := ?_) 13 rfl rfl (by kernel_rfl) (by kernel_rfl) (by kernel_rfl) (fun _ _ _ h => h) (Or.inl ⟨by rfl, ?_⟩) (by assumption) ?_
              rotate_left
              · (intro wS hSw; (try dsimp only at hSw); go_simp; try with_reducible rfl)
              simp only [Act.put, List.setIfInBounds_toArray, List.set_cons_zero, List.set_cons_succ]
              refine take_ (i := 16) (v := ?_) 14 rfl rfl (by kernel_rfl) (by kernel_rfl) (by kernel_rfl) (fun _ _ _ h => h) (Or.inl ⟨by rfl, ?_⟩) (by assumption) ?_
              rotate_left
              · (intro wS hSw; (try dsimp only at hSw); go_simp; try with_reducible rfl)
              simp only [Act.put, List.setIfInBounds_toArray, List.set_cons_zero, List.set_cons_succ]
              refine wpAnyH_done (by kernel_rfl) ?_ _
              go_upto_region 27 with fail
              refine wp_region_held_drew (S := fun w' => w'.cell? ⟨g, off2 + J * 2 + 1, none⟩ = some (.string (strB lk)) ∧ w'.cell? ⟨q, 3, none⟩ = some (.int .i64 (a : Int)) ∧ w'.cell? ⟨q, 4, none⟩ = some (.int .i64 (m : Int))) (by kernel_rfl) ⟨cc5, z3, z4⟩ (fun hHeld => ?_)
              refine take_ (i := 0) (v := ?_) 149 rfl rfl (by kernel_rfl) (by kernel_rfl) (by kernel_rfl) (fun _ _ _ h => h) (Or.inl ⟨by rfl, ?_⟩) (by assumption) ?_
              rotate_left
              · (intro wS hSw; (try dsimp only at hSw); go_simp; try with_reducible rfl)
              simp only [Act.put, List.setIfInBounds_toArray, List.set_cons_zero, List.set_cons_succ]
              refine take_ (i := 1) (v := ?_) 150 rfl rfl (by kernel_rfl) (by kernel_rfl) (by kernel_rfl) (fun _ _ _ h => h) (Or.inl ⟨by rfl, ?_⟩) (by assumption) ?_
              rotate_left
              · (intro wS hSw; (try dsimp only at hSw); go_simp; try with_reducible rfl)
              simp only [Act.put, List.setIfInBounds_toArray, List.set_cons_zero, List.set_cons_succ]
              refine take_ (i := 2) (v := ?_) 151 rfl rfl (by kernel_rfl) (by kernel_rfl) (by kernel_rfl) (fun _ _ _ h => h) (Or.inl ⟨by rfl, ?_⟩) (by assumption) ?_
              rotate_left
              · (intro wS hSw; (try dsimp only at hSw); go_simp; try with_reducible rfl)
              simp only [Act.put, List.setIfInBounds_toArray, List.set_cons_zero, List.set_cons_succ]
              refine take_ (i := 3) (v := ?_) 152 rfl rfl (by kernel_rfl) (by kernel_rfl) (by kernel_rfl) (fun _ _ _ h => h) (Or.inl ⟨by rfl, ?_⟩) (by assumption) ?_
              rotate_left
              · (intro wS hSw; (try dsimp only at hSw); go_simp; try with_reducible rfl)
              simp only [Act.put, List.setIfInBounds_toArray, List.set_cons_zero, List.set_cons_succ]
              refine take_ (i := 4) (v := ?_) 153 rfl rfl (by kernel_rfl) (by kernel_rfl) (by kernel_rfl) (fun _ _ _ h => h) (Or.inl ⟨by rfl, ?_⟩) (by assumption) ?_
              rotate_left
              · (intro wS hSw; (try dsimp only at hSw); go_simp; try with_reducible rfl)
              simp only [Act.put, List.setIfInBounds_toArray, List.set_cons_zero, List.set_cons_succ]
              refine take_ (i := 5) (v := ?_) 154 rfl rfl (by kernel_rfl) (by kernel_rfl) (by kernel_rfl) (fun _ _ _ h => h) (Or.inl ⟨by rfl, ?_⟩) (by assumption) ?_
              rotate_left
              · (intro wS hSw; (try dsimp only at hSw); go_simp; try with_reducible rfl)
              simp only [Act.put, List.setIfInBounds_toArray, List.set_cons_zero, List.set_cons_succ]
              refine take_ (i := 6) (v := ?_) 155 rfl rfl (by kernel_rfl) (by kernel_rfl) (by kernel_rfl) (fun _ _ _ h => h) (Or.inl ⟨by rfl, ?_⟩) (by assumption) ?_
              rotate_left
              · (intro wS hSw; (try dsimp only at hSw); go_simp; try with_reducible rfl)
              simp only [Act.put, List.setIfInBounds_toArray, List.set_cons_zero, List.set_cons_succ]
              refine take_ (i := 7) (v := ?_) 156 rfl rfl (by kernel_rfl) (by kernel_rfl) (by kernel_rfl) (fun _ _ _ h => h) (Or.inl ⟨by rfl, ?_⟩) (by assumption) ?_
              rotate_left
              · (intro wS hSw; (try dsimp only at hSw); go_simp; try with_reducible rfl)
              simp only [Act.put, List.setIfInBounds_toArray, List.set_cons_zero, List.set_cons_succ]
              refine take_ (i := 8) (v := ?_) 157 rfl rfl (by kernel_rfl) (by kernel_rfl) (by kernel_rfl) (fun _ _ _ h => h) (Or.inl ⟨by rfl, ?_⟩) (by assumption) ?_
              rotate_left
              · (intro wS hSw; (try dsimp only at hSw); go_simp; try with_reducible rfl)
              simp only [Act.put, List.setIfInBounds_toArray, List.set_cons_zero, List.set_cons_succ]
              refine take_ (i := 9) (v := ?_) 158 rfl rfl (by kernel_rfl) (by kernel_rfl) (by kernel_rfl) (fun _ _ _ h => h) (Or.inl ⟨by rfl, ?_⟩) (by assumption) ?_
              rotate_left
              · (intro wS hSw; (try dsimp only at hSw); go_simp; try with_reducible rfl)
              simp only [Act.put, List.setIfInBounds_toArray, List.set_cons_zero, List.set_cons_succ]
              refine take_ (i := 10) (v := ?_) 159 rfl rfl (by kernel_rfl) (by kernel_rfl) (by kernel_rfl) (fun _ _ _ h => h) (Or.inl ⟨by rfl, ?_⟩) (by assumption) ?_
              rotate_left
              · (intro wS hSw; (try dsimp only at hSw); go_simp; try with_reducible rfl)
              simp only [Act.put, List.setIfInBounds_toArray, List.set_cons_zero, List.set_cons_succ]
              refine take_ (i := 11) (v := ?_) 160 rfl rfl (by kernel_rfl) (by kernel_rfl) (by kernel_rfl) (fun _ _ _ h => h) (Or.inl ⟨by rfl, ?_⟩) (by assumption) ?_
              rotate_left
              · (intro wS hSw; (try dsimp only at hSw); go_simp; try with_reducible rfl)
              simp only [Act.put, List.setIfInBounds_toArray, List.set_cons_zero, List.set_cons_succ]
              refine take_ (i := 12) (v := ?_) 161 rfl rfl (by kernel_rfl) (by kernel_rfl) (by kernel_rfl) (fun _ _ _ h => h) (Or.inl ⟨by rfl, ?_⟩) (by assumption) ?_
              rotate_left
              · (intro wS hSw; (try dsimp only at hSw); go_simp; try with_reducible rfl)
              simp only [Act.put, List.setIfInBounds_toArray, List.set_cons_zero, List.set_cons_succ]
              refine one_ (i := 13) _ (by kernel_rfl) rfl (fun K hK => ?_)
              go_simp
              refine (PA.out _).mono ?_
              rintro e w6 ⟨rfl, rfl⟩
              have F : Hid (MemAt w.heap.size w5.drew p n3 f ∧ Below w.heap.size w w5.drew ∧ OwnH w5.drew w.heap.size (.slice (some ⟨g, off2, none⟩) bl.length c1) bl ∧ Good n3 f bl) := ⟨M5.out.under (Below.refl _ _).drew, (GQ.out.2.1.trans (K5.out.below GQ.out.2.1.size)).drew, O5.out.kp (Kp.under (B := w.heap.size) (Below.refl _ _).drew), GQ.out.2.2.2⟩
              clear hHeld
              go_wp2_with fail
              refine hK.out _ _ ⟨cc5, z3, z4⟩ (fun hHeld => ?_)
              clear hK K
              refine take_ (i := 14) (v := ?_) 163 rfl rfl (by kernel_rfl) (by kernel_rfl) (by kernel_rfl) (fun _ _ _ h => h) (Or.inl ⟨by rfl, ?_⟩) (by assumption) ?_
              rotate_left
              · (intro wS hSw; (try dsimp only at hSw); go_simp; try with_reducible rfl)
              simp only [Act.put, List.setIfInBounds_toArray, List.set_cons_zero, List.set_cons_succ]
              refine take_ (i := 15) (v := ?_) 164 rfl rfl (by kernel_rfl) (by kernel_rfl) (by kernel_rfl) (fun _ _ _ h => h) (Or.inl ⟨by rfl, ?_⟩) (by assumption) ?_
              rotate_left
              · (intro wS hSw; (try dsimp only at hSw); go_simp; try with_reducible rfl)
              simp only [Act.put, List.setIfInBounds_toArray, List.set_cons_zero, List.set_cons_succ]
              refine take_ (i := 16) (v := ?_) 11 rfl rfl (by kernel_rfl) (by kernel_rfl) (by kernel_rfl) (fun _ _ _ h => h) (Or.inl ⟨by rfl, ?_⟩) (by assumption) ?_
              rotate_left
              · (intro wS hSw; (try dsimp only at hSw); go_simp; try with_reducible rfl)
              simp only [Act.put, List.setIfInBounds_toArray, List.set_cons_zero, List.set_cons_succ]
              refine wpAnyH_done (by kernel_rfl) ?_ _
              go_wp2_with fail
              go_roundw
              case rel => exact ⟨k + 1, bl, f, by omega, by omega, by go_num, F⟩
              case measure => simp [intOf] <;> omega
            · have RD := Lib.hid (breadat_bad wq.drew p (hh : Int) fr nn (by omega))
              unfold sto strV at RD
              rw [strB_nil] at RD
              clear TH
              go_upto_region 24 with fail
              refine wp_region_held_drew (S := fun w' => w'.cell? ⟨g, off2 + J * 2, none⟩ = some (.int .i64 (hh : Int)) ∧ w'.cell? ⟨q, 3, none⟩ = some (.int .i64 fr) ∧ w'.cell? ⟨q, 4, none⟩ = some (.int .i64 nn)) (by kernel_rfl) ⟨ch, z3, z4⟩ (fun hHeld => ?_)
              refine take_ (i := 0) (v := ?_) 121 rfl rfl (by kernel_rfl) (by kernel_rfl) (by kernel_rfl) (fun _ _ _ h => h) (Or.inl ⟨by rfl, ?_⟩) (by assumption) ?_
              rotate_left
              · (intro wS hSw; (try dsimp only at hSw); go_simp; try with_reducible rfl)
              simp only [Act.put, List.setIfInBounds_toArray, List.set_cons_zero, List.set_cons_succ]
              refine take_ (i := 1) (v := ?_) 122 rfl rfl (by kernel_rfl) (by kernel_rfl) (by kernel_rfl) (fun _ _ _ h => h) (Or.inl ⟨by rfl, ?_⟩) (by assumption) ?_
              rotate_left
              · (intro wS hSw; (try dsimp only at hSw); go_simp; try with_reducible rfl)
              simp only [Act.put, List.setIfInBounds_toArray, List.set_cons_zero, List.set_cons_succ]
              refine take_ (i := 2) (v := ?_) 123 rfl rfl (by kernel_rfl) (by kernel_rfl) (by kernel_rfl) (fun _ _ _ h => h) (Or.inl ⟨by rfl, ?_⟩) (by assumption) ?_
              rotate_left
              · (intro wS hSw; (try dsimp only at hSw); go_simp; try with_reducible rfl)
              simp only [Act.put, List.setIfInBounds_toArray, List.set_cons_zero, List.set_cons_succ]
              refine take_ (i := 3) (v := ?_) 124 rfl rfl (by kernel_rfl) (by kernel_rfl) (by kernel_rfl) (fun _ _ _ h => h) (Or.inl ⟨by rfl, ?_⟩) (by assumption) ?_
              rotate_left
              · (intro wS hSw; (try dsimp only at hSw); go_simp; try with_reducible rfl)
              simp only [Act.put, List.setIfInBounds_toArray, List.set_cons_zero, List.set_cons_succ]
              refine take_ (i := 4) (v := ?_) 125 rfl rfl (by kernel_rfl) (by kernel_rfl) (by kernel_rfl) (fun _ _ _ h => h) (Or.inl ⟨by rfl, ?_⟩) (by assumption) ?_
              rotate_left
              · (intro wS hSw; (try dsimp only at hSw); go_simp; try with_reducible rfl)
              simp only [Act.put, List.setIfInBounds_toArray, List.set_cons_zero, List.set_cons_succ]
              refine take_ (i := 5) (v := ?_) 126 rfl rfl (by kernel_rfl) (by kernel_rfl) (by kernel_rfl) (fun _ _ _ h => h) (Or.inl ⟨by rfl, ?_⟩) (by assumption) ?_
              rotate_left
              · (intro wS hSw; (try dsimp only at hSw); go_simp; try with_reducible rfl)
              simp only [Act.put, List.setIfInBounds_toArray, List.set_cons_zero, List.set_cons_succ]
              refine take_ (i := 6) (v := ?_) 127 rfl rfl (by kernel_rfl) (by kernel_rfl) (by kernel_rfl) (fun _ _ _ h => h) (Or.inl ⟨by rfl, ?_⟩) (by assumption) ?_
              rotate_left
              · (intro wS hSw; (try dsimp only at hSw); go_simp; try with_reducible rfl)
              simp only [Act.put, List.setIfInBounds_toArray, List.set_cons_zero, List.set_cons_succ]
              refine take_ (i := 7) (v := ?_) 128 rfl rfl (by kernel_rfl) (by kernel_rfl) (by kernel_rfl) (fun _ _ _ h => h) (Or.inl ⟨by rfl, ?_⟩) (by assumption) ?_
              rotate_left
              · (intro wS hSw; (try dsimp only at hSw); go_simp; try with_reducible rfl)
              simp only [Act.put, List.setIfInBounds_toArray, List.set_cons_zero, List.set_cons_succ]
              refine take_ (i := 8) (v := ?_) 129 rfl rfl (by kernel_rfl) (by kernel_rfl) (by kernel_rfl) (fun _ _ _ h => h) (Or.inl ⟨by rfl, ?_⟩) (by assumption) ?_
              rotate_left
              · (intro wS hSw; (try dsimp only at hSw); go_simp; try with_reducible rfl)
              simp only [Act.put, List.setIfInBounds_toArray, List.set_cons_zero, List.set_cons_succ]
              refine take_ (i := 9) (v := ?_) 130 rfl rfl (by kernel_rfl) (by kernel_rfl) (by kernel_rfl) (fun _ _ _ h => h) (Or.inl ⟨by rfl, ?_⟩) (by assumption) ?_
              rotate_left
              · (intro wS hSw; (try dsimp only at hSw); go_simp; try with_reducible rfl)
              simp only [Act.put, List.setIfInBounds_toArray, List.set_cons_zero, List.set_cons_succ]
              refine take_ (i := 10) (v := ?_) 131 rfl rfl (by kernel_rfl) (by kernel_rfl) (by kernel_rfl) (fun _ _ _ h => h) (Or.inl ⟨by rfl, ?_⟩) (by assumption) ?_
              rotate_left
              · (intro wS hSw; (try dsimp only at hSw); go_simp; try with_reducible rfl)
              simp only [Act.put, List.setIfInBounds_toArray, List.set_cons_zero, List.set_cons_succ]
              refine one_ (i := 11) _ (by kernel_rfl) rfl (fun K hK => ?_)
              go_simp
              refine RD.out.mono ?_
              rintro e w5 ⟨rfl, hb5⟩
              have BB : Hid (Below wq.heap.size wq w5) := (Below.refl _ _).drew.trans hb5
              have K5 : Hid (Kp w.heap.size wq w5) := Kp.under (B := w.heap.size) BB.out
              have X5 := Lib.hid (K5.out.held HQ.out (by decide) (by decide))
              have O5 := Lib.hid (GQ.out.2.2.1.kp K5.out)
              have H5 : Hid (HAt w5 (some ⟨g, off2, none⟩) bl) := by
                obtain ⟨A5, c5, e5, _, ha5⟩ := O5.out.any
                injection e5 with e1 e3 e2
                subst e1
                exact ha5
              have C5 : w5.cell? ⟨g, off2 + J * 2, none⟩ = some (.int .i64 (hh : Int)) ∧ w5.cell? ⟨g, off2 + J * 2 + 1, none⟩ = some (.string (strB lk)) := by
                obtain ⟨g', o', e', y1, y2⟩ := H5.out.at_ hJ
                injection e' with e'
                injection e' with e1 e2
                subst e1 e2
                rw [HH.out] at y1
                rw [LK.out] at y2
                exact ⟨y1, y2⟩
              obtain ⟨ch5, cc5⟩ := C5
              clear z0 z1 z2 z3 z4 ch cc hHeld RD
              have z3 := X5.out.cell 3
              have z4 := X5.out.cell 4
              clear hb5
              go_wp2_with fail
              refine hK.out _ _ ⟨ch5, z3, z4⟩ (fun hHeld => ?_)
              clear hK K
              refine take_ (i := 12) (v := ?_) 120 rfl rfl (by kernel_rfl) (by kernel_rfl) (by kernel_rfl) (fun _ _ _ h => h) (Or.inl ⟨by rfl, ?_⟩) (by assumption) ?_
              rotate_left
              · (intro wS hSw; (try dsimp only at hSw); go_simp; try with_reducible rfl)
              simp only [Act.put, List.setIfInBounds_toArray, List.set_cons_zero, List.set_cons_succ]
              refine take_ (i := 13) (v := ?_) 133 rfl rfl (by kernel_rfl) (by kernel_rfl) (by kernel_rfl) (fun _ _ _ h => h) (Or.inl ⟨by rfl, ?_⟩) (by assumption) ?_
              rotate_left
              · (intro wS hSw; (try dsimp only at hSw); go_simp; try with_reducible rfl)
              simp only [Act.put, List.setIfInBounds_toArray, List.set_cons_zero, List.set_cons_succ]
              refine take_ (i := 14) (v := ?_) 134 rfl rfl (by kernel_rfl) (by kernel_rfl) (by kernel_rfl) (fun _ _ _ h => h) (Or.inl ⟨by rfl, ?_⟩) (by assumption) ?_
              rotate_left
              · (intro wS hSw; (try dsimp only at hSw); go_simp; try with_reducible rfl)
              simp only [Act.put, List.setIfInBounds_toArray, List.set_cons_zero, List.set_cons_succ]
              refine take_ (i := 15) (v := ?_) 13 rfl rfl (by kernel_rfl) (by kernel_rfl) (by kernel_rfl) (fun _ _ _ h => h) (Or.inl ⟨by rfl, ?_⟩) (by assumption) ?_
              rotate_left
              · (intro wS hSw; (try dsimp only at hSw); go_simp; try with_reducible rfl)
              simp only [Act.put, List.setIfInBounds_toArray, List.set_cons_zero, List.set_cons_succ]
              refine take_ (i := 16) (v := ?_) 14 rfl rfl (by kernel_rfl) (by kernel_rfl) (by kernel_rfl) (fun _ _ _ h => h) (Or.inl ⟨by rfl, ?_⟩) (by assumption) ?_
              rotate_left
              · (intro wS hSw; (try dsimp only at hSw); go_simp; try with_reducible rfl)
              simp only [Act.put, List.setIfInBounds_toArray, List.set_cons_zero, List.set_cons_succ]
              refine wpAnyH_done (by kernel_rfl) ?_ _
              have F : Hid (MemAt w.heap.size w5 p n3 f ∧ Below w.heap.size w w5 ∧ OwnH w5 w.heap.size (.slice (some ⟨g, off2, none⟩) bl.length c1) bl ∧ Good n3 f bl) := ⟨GQ.out.1.under BB.out, GQ.out.2.1.trans (K5.out.below GQ.out.2.1.size), O5.out, GQ.out.2.2.2⟩
              by_cases f0 : fr < 0
              · go_wp2_with fail
                go_roundw
                case rel => exact ⟨k + 1, bl, f, by omega, by omega, by go_num, F⟩
                case measure => simp [intOf] <;> omega
              · have n0 : nn < 0 := by omega
                go_wp2_with fail
                go_roundw
                case rel => exact ⟨k + 1, bl, f, by omega, by omega, by go_num, F⟩
                case measure => simp [intOf] <;> omega
        · by_cases c0 : κ = 0
          · subst c0
            have TX := Lib.hid (text_some wq ds DSH.out nn)
            go_wp2_with fail
            refine TX.out.mono ?_
            rintro e w5 ⟨lt, rfl, ht8, htm, hb5⟩
            have S5 := Nat.le_trans GQ.out.2.1.size hb5.size
            have PU := Lib.hid (put_any w.heap.size w5 S5 p n3 (by omega) f (GQ.out.1.under hb5) bl _ (GQ.out.2.2.1.kp (Kp.under (B := w.heap.size) hb5)) GQ.out.2.2.2 (by omega) lt ht8 htm (-1) (.inl rfl))
            have B5 : Hid (Below w.heap.size w w5) := GQ.out.2.1.trans (hb5.mono GQ.out.2.1.size)
            clear hb5 TX ht8 htm
            unfold strV at PU
            unfold strV
            go_wp2_with fail
            refine PU.out.mono ?_
            rintro e w6 ⟨v6, bl6, f6, rfl, o6, g6, m6, b6, n6⟩
            have F : Hid (MemAt w.heap.size w6 p n3 f6 ∧ Below w.heap.size w w6 ∧ OwnH w6 w.heap.size v6 bl6 ∧ Good n3 f6 bl6) := ⟨m6, B5.out.trans b6, o6, g6⟩
            clear PU

            clear o6 g6 m6 b6
            go_wp2_with fail
            go_roundw
            case rel => exact ⟨k + 1, bl6, f6, by omega, by omega, by go_num, F⟩
            case measure => simp [intOf] <;> omega
          · have c0' : ¬ (κ : Int) = 0 := by omega
            have TX := Lib.hid (text_some wq ds DSH.out nn)
            go_wp2_with fail
            refine TX.out.mono ?_
            rintro e w5 ⟨lt, rfl, ht8, htm, hb5⟩
            have S5 := Nat.le_trans GQ.out.2.1.size hb5.size
            have PU := Lib.hid (put_any w.heap.size w5 S5 p n3 (by omega) f (GQ.out.1.under hb5) bl _ (GQ.out.2.2.1.kp (Kp.under (B := w.heap.size) hb5)) GQ.out.2.2.2 (by omega) lt ht8 htm (-1) (.inl rfl))
            have B5 : Hid (Below w.heap.size w w5) := GQ.out.2.1.trans (hb5.mono GQ.out.2.1.size)
            clear hb5 TX ht8 htm
            unfold strV at PU
            unfold strV
            go_wp2_with fail
            refine PU.out.mono ?_
            rintro e w6 ⟨v6, bl6, f6, rfl, o6, g6, m6, b6, n6⟩
            have F : Hid (MemAt w.heap.size w6 p n3 f6 ∧ Below w.heap.size w w6 ∧ OwnH w6 w.heap.size v6 bl6 ∧ Good n3 f6 bl6) := ⟨m6, B5.out.trans b6, o6, g6⟩
            clear PU

            clear o6 g6 m6 b6
            go_wp2_with fail
            go_roundw
            case rel => exact ⟨k + 1, bl6, f6, by omega, by omega, by go_num, F⟩
            case measure => simp [intOf] <;> omega
      · have l0 : ¬ (0 : Int) < (bl.length : Int) := by omega
        by_cases c0 : κ = 0
        · subst c0
          have TX := Lib.hid (text_some wq ds DSH.out nn)
          go_wp2_with fail
          refine TX.out.mono ?_
          rintro e w5 ⟨lt, rfl, ht8, htm, hb5⟩
          have S5 := Nat.le_trans GQ.out.2.1.size hb5.size
          have PU := Lib.hid (put_any w.heap.size w5 S5 p n3 (by omega) f (GQ.out.1.under hb5) bl _ (GQ.out.2.2.1.kp (Kp.under (B := w.heap.size) hb5)) GQ.out.2.2.2 (by omega) lt ht8 htm (-1) (.inl rfl))
          have B5 : Hid (Below w.heap.size w w5) := GQ.out.2.1.trans (hb5.mono GQ.out.2.1.size)
          clear hb5 TX ht8 htm
          unfold strV at PU
          unfold strV
          go_wp2_with fail
          refine PU.out.mono ?_
          rintro e w6 ⟨v6, bl6, f6, rfl, o6, g6, m6, b6, n6⟩
          have F : Hid (MemAt w.heap.size w6 p n3 f6 ∧ Below w.heap.size w w6 ∧ OwnH w6 w.heap.size v6 bl6 ∧ Good n3 f6 bl6) := ⟨m6, B5.out.trans b6, o6, g6⟩
          clear PU

          clear o6 g6 m6 b6
          go_wp2_with fail
          go_roundw
          case rel => exact ⟨k + 1, bl6, f6, by omega, by omega, by go_num, F⟩
          case measure => simp [intOf] <;> omega
        · have c0' : ¬ (κ : Int) = 0 := by omega
          have TX := Lib.hid (text_some wq ds DSH.out nn)
          go_wp2_with fail
          refine TX.out.mono ?_
          rintro e w5 ⟨lt, rfl, ht8, htm, hb5⟩
          have S5 := Nat.le_trans GQ.out.2.1.size hb5.size
          have PU := Lib.hid (put_any w.heap.size w5 S5 p n3 (by omega) f (GQ.out.1.under hb5) bl _ (GQ.out.2.2.1.kp (Kp.under (B := w.heap.size) hb5)) GQ.out.2.2.2 (by omega) lt ht8 htm (-1) (.inl rfl))
          have B5 : Hid (Below w.heap.size w w5) := GQ.out.2.1.trans (hb5.mono GQ.out.2.1.size)
          clear hb5 TX ht8 htm
          unfold strV at PU
          unfold strV
          go_wp2_with fail
          refine PU.out.mono ?_
          rintro e w6 ⟨v6, bl6, f6, rfl, o6, g6, m6, b6, n6⟩
          have F : Hid (MemAt w.heap.size w6 p n3 f6 ∧ Below w.heap.size w w6 ∧ OwnH w6 w.heap.size v6 bl6 ∧ Good n3 f6 bl6) := ⟨m6, B5.out.trans b6, o6, g6⟩
          clear PU

          clear o6 g6 m6 b6
          go_wp2_with fail
          go_roundw
          case rel => exact ⟨k + 1, bl6, f6, by omega, by omega, by go_num, F⟩
          case measure => simp [intOf] <;> omega
    · obtain rfl : k = n := by omega
      have ik : ¬ (k : Int) < (k : Int) := by omega
      have WH := Lib.hid (whole_any w.heap.size wr G.out.2.1.size p n3 f G.out.1 bl _ G.out.2.2.1 G.out.2.2.2 (by omega))
      go_wp2_with fail
      refine WH.out.mono ?_
      rintro e w5 ⟨rfl, hb5⟩
      have FIN : Hid (Below w.heap.size w w5) := G.out.2.1.trans hb5
      clear hb5 WH
      go_wp2_with fail
      go_ret
      exact ⟨rfl, FIN.out⟩

set_option maxRecDepth 100000 in
theorem opens {H : Type} {enc : TypeId × Value → H} {W : World} {base : Nat} {args : Array Value} {ds : List (DataW H)} {p : List MemPlace}
    (hval : ∀ (j : Nat) t v, Try.f3.params[j]? = some t → args[j]? = some v → Value.okWide Try.prog W .any base t v)
    (hA : DataW.TrodAll enc Try.prog W 0 (fun _ => true) true Try.f3.params.toList args.toList ds p) (hlt : ∀ x ∈ p, x.block < W.heap.size) (hsz : (DataW.weightsEach Try.prog Try.f3.params.toList ds).all (· ≤ reachBytes) = true) :
    Calls Try.prog 3 args W fun e W' => e = .returned (.bool true) ∧ Below W.heap.size W W' := by
  rw [Try.params3] at hA hval hsz
  obtain ⟨v0, vs0, d0, ds0, p0, q0, hargs, rfl, rfl, h0, r0⟩ := trodAll_cons hA
  obtain ⟨v1, vs1, d1, ds1, p1, q1, rfl, rfl, rfl, h1, r1⟩ := trodAll_cons r0
  obtain ⟨rfl, rfl, rfl⟩ := trodAll_nil r1
  obtain rfl : args = #[v0, v1] := by cases args; simp_all
  obtain ⟨x, rfl, rfl, rfl, wx⟩ := open_int Try.underlying5 (hval 0 5 v0 rfl rfl) h0
  obtain ⟨A, n, c, l, rfl, hl, hn⟩ := open_bops (hval 1 22 v1 rfl rfl) h1
  have u := u8_nat wx
  obtain ⟨X, hX⟩ : ∃ X : Nat, X = x.toNat := ⟨_, rfl⟩
  rw [← hX] at u
  rw [← u.1]
  exact walk X u.2 A n c l W hl hn

set_option maxRecDepth 100000 in
theorem lifted (os : Os) (started : os.Started) (H : Type) (enc : TypeId × Value → H) :
    ReturnsInHanded {} Try.checked os 3 .any (Rows.blobPlaysSpec.pre6 enc Try.prog Try.f3 Rows.blobPlaysRow.domain false) (Rows.blobPlaysSpec.post enc Try.prog Try.f3 false true false false) := by
  refine returnsInHanded_of_change_sized (C := Try.checked) own started (by kernel_rfl) Try.func3
    (ChangeSpec.witness6 (enc := enc) (C := Try.checked) false ⟨#[], #[.int .u8 0, .slice none 0 0], []⟩ 8 (by kernel_rfl) (by kernel_rfl) (by kernel_rfl) (by kernel_rfl)) ?_
  intro W base args ds gs before hval hW _ hsz0 _
  refine law_calls laidOut Try.underlying4 rfl (by rw [Try.params3]; exact of_decide_eq_true (by kernel_rfl)) rfl (fun ds h => by match ds, h with | [_, _], _ => rfl) hW ?_
  obtain ⟨rfl, p, hA, hlt⟩ := law_args rfl hW
  have hsz : (DataW.weightsEach Try.prog (Try.f3.params.toList ++ []) (ds ++ [])).all (· ≤ reachBytes) = true := hsz0
  rw [List.append_nil, List.append_nil] at hsz
  exact opens hval hA hlt hsz

theorem over : Rows.blobPlaysRow.holds Try.pinned (OpenSpec.ofChange Rows.blobPlaysSpec) :=
  OpenClaim.holds_of_wide 3 Try.f3 rfl rfl rfl rfl rfl rfl rfl ⟨rfl, rfl, rfl, rfl, rfl⟩ rfl rfl rfl rfl rfl (by kernel_rfl) Try.func3 (by kernel_rfl)
    (of_decide_eq_true (by kernel_rfl)) (by unfold Func.isWrapper; first | (rw [if_pos (by decide +kernel)]; kernel_rfl) | (rw [if_neg (by decide +kernel)]; exact ⟨rfl, rfl⟩))
    (fun os started H enc _ => lifted os started H enc)

theorem proved : Rows.BlobPlaysSaid := over

end Go.Proofs.Ytlofpbmceipkkaa.blobPlays
