/-
  BtreeCopies: copy on write: on a store that holds the tree's blocks, behind any changes the old root tells the old pairs. The arguments hold at most 1048576 values and letters together (the Upto form).
-/
import Derived.Test.YtldmllmkckklhaaGreatDoorQA78
namespace Go.Proofs.YtldmllmkckklhaaGreatDoor.btreeCopies
open Go.ChangeShapes Go.WideShapes Go.ChangeAt Go.RowKit Wal

set_option maxRecDepth 100000 in
set_option maxHeartbeats 6400000 in
theorem walk (w : World) (A1 A2 : Option Addr) (n1 c1 n2 c2 : Nat) (l1 l2 : Nat → OT) (h1 : OpsAt w A1 n1 l1) (h2 : OpsAt w A2 n2 l2) (hn1 : n1 ≤ 9223372036854775807) (hn2 : n2 ≤ 9223372036854775807) :
    Calls Tryz.prog 4 #[.slice A1 n1 c1, .slice A2 n2 c2] w fun e w' => e = .returned (.bool true) ∧ Below w.heap.size w w' := by
  have H1 := Lib.hid h1
  have H2 := Lib.hid h2
  have FX := Lib.hid (fixed_any w)
  have BIG : Hid (∀ w1, Below w.heap.size w w1 → Calls Tryz.prog 8 #[] w1 fun x w' => x = .returned (.bool true) ∧ Below w.heap.size w w') := fun w1 hb => (fixed_any w1).mono fun x w' ⟨e, h⟩ => ⟨e, hb.trans (h.mono hb.size)⟩
  clear h1 h2
  by_cases hl1 : n1 ≤ 60
  · by_cases hl2 : n2 ≤ 60
    · have i1 : ¬ (60 : Int) < (n1 : Int) := by omega
      have i2 : ¬ (60 : Int) < (n2 : Int) := by omega
      have L1 : Hid (n1 ≤ 60) := hl1
      have L2 : Hid (n2 ≤ 60) := hl2
      clear hn1 hn2 hl1 hl2 BIG
      go_enter Tryz.func4, Tryz.ntmps4
      go_wp2_with fail
      refine FX.out.mono ?_
      rintro e w1 ⟨rfl, hb1⟩
      have B1 := Lib.hid hb1
      have NM := Lib.hid (newmem_any w.heap.size w1 B1.out.size 4096)
      clear hb1 FX
      go_wp2_with fail
      refine NM.out.mono ?_
      rintro e w2 ⟨p, rfl, hp, hm2, hb2⟩
      have B2 : Hid (Below w.heap.size w w2) := B1.out.trans (hb2.mono B1.out.size)
      have M2 : Hid (MemAt w.heap.size w2 p 4096 fun _ => none) := hm2
      have OP : Hid (Calls Tryz.prog 10 #[.iface 24 (.pointer (some ⟨p, 0, none⟩)), .int .i64 0] w2 fun x w' => ∃ t, x = .returned (.pointer (some ⟨t, 0, none⟩)) ∧ w2.heap.size ≤ t ∧ TreeO w' t p 0 ∧ Below w2.heap.size w2 w') := open_any w2 p 0
      clear hb2 hm2 hp NM B1
      go_wp2_with fail
      refine OP.out.mono ?_
      rintro e w3 ⟨t, rfl, ht, hT, hb3⟩
      obtain ⟨r, hr⟩ : ∃ r, r = w3.heap.size := ⟨_, rfl⟩
      obtain ⟨w4, hw4⟩ : ∃ w4, w4 = w3.alloc (.cells #[.slice none 0 0] 31) := ⟨_, rfl⟩
      have U4 : Below w3.heap.size w3 w4 := by rw [hw4]; exact (Below.refl _ _).alloc (Nat.le_refl _) _
      have B3 : Hid (Below w.heap.size w w3) := B2.out.trans (hb3.mono B2.out.size)
      have B4 : Hid (Below w.heap.size w w4) := B3.out.trans (U4.mono B3.out.size)
      have BO : Hid (Both w.heap.size w4 t p 4096 r [] [] fun _ => none) := by
        have L := (live_new hT (M2.out.under hb3) (Nat.le_refl _) (Nat.le_trans B2.out.size ht)).under U4
        refine ⟨⟨0, _, [], L, Full.none_ _, by simp⟩, ⟨none, 0, ?_, OwnP.nil _ _⟩, by rw [hr]; exact B3.out.size⟩
        rw [hw4]
        exact Held.new _ _ _ hr
      have HW4 := Lib.hid hw4
      have HR := Lib.hid hr
      clear ht hT hb3 OP M2 B2 hr hw4 U4
      go_upto_region 5 with fail
      rw [← HW4.out, ← HR.out]
      go_wp2_with fail
      go_loopw [8] (fun vi wr => ∃ (i : Nat) (es : List En), i ≤ n1 ∧ vi = .int .i64 i ∧ Hid (Both w.heap.size wr t p 4096 r es [] (fun _ => none) ∧ es.length ≤ i ∧ Below w.heap.size w wr)) (fun vi _ => n1 - (intOf vi).toNat)
      case atStart => exact ⟨0, [], by omega, rfl, BO.out, Nat.le_refl _, B4.out⟩
      case round =>
        clear BO B4 B3
        obtain ⟨i, es, hi, rfl, G⟩ := hrel
        have ln := L1.out
        by_cases hlt : i < n1
        · obtain ⟨b, off, rfl, hb, x0, x1, x2, x3⟩ := (H1.out.kept G.out.2.2).get hlt
          have ST := Lib.hid (step_any w.heap.size wr t p 4096 r es [] (fun _ => none) G.out.1 (by have := G.out.2.1; omega) (by have := G.out.2.1; simp only [List.length_nil]; omega) (l1 i) (H1.out.1 i hlt))
          have SL : Hid ((stepE es (l1 i)).length ≤ i + 1) := Nat.le_trans (stepE_length G.out.1.rises (l1 i)) (by have := G.out.2.1; omega)
          have GB := Lib.hid G.out.2.2
          unfold OT.cells at ST
          have im : (i : Int) < (n1 : Int) := by omega
          have lim : (i : Int) ≤ 60 := by omega
          clear hlt ln G
          go_wp2_with fail
          refine ST.out.mono ?_
          rintro e w5 ⟨rfl, hBo, hK⟩
          have BO := Lib.hid hBo
          have B5 : Hid (Below w.heap.size w w5) := GB.out.trans (hK.below GB.out.size)
          clear hBo hK ST x0 x1 x2 x3 hb
          go_wp2_with fail
          go_roundw
          case rel => exact ⟨i + 1, _, by omega, by go_num, BO.out, SL.out, B5.out⟩
          case measure => simp [intOf]; omega
        · obtain rfl : i = n1 := by omega
          obtain ⟨root, f, bs, L, F, _⟩ := G.out.1.tree
          obtain ⟨A, c, R⟩ := G.out.1.ref
          have HD := Lib.hid (hold_any w.heap.size wr p 4096 f L.mem)
          have ESL : Hid (es.length ≤ 60) := Nat.le_trans G.out.2.1 L1.out
          have OKL := Lib.hid L.ok
          have LIES := Lib.hid L.lies
          have LOW := Lib.hid L.low
          have HT := Lib.hid L.tree
          have HRR := Lib.hid R
          have HF := Lib.hid F
          have RLO := Lib.hid G.out.1.low
          have BR := Lib.hid G.out.2.2
          clear hlt ln L F R G
          go_wp2_with fail
          refine HD.out.mono ?_
          rintro e w6 ⟨rfl, hM, hK⟩
          have T6 := hK.held HT.out (by decide)
          have R6 : RefP w6 w.heap.size r es A c := ⟨hK.held HRR.out.blk (by decide), hK.row HRR.out.own (by decide)⟩
          have M6 := Lib.hid hM
          have B6 : Hid (Below w.heap.size w w6) := BR.out.trans (hK.below BR.out.size)
          have RT := Lib.hid (root_any w6 t p root T6)
          have FE : (fromE es []).take (1073741824 : Int).toNat = es := by
            rw [fromE_none, List.take_of_length_le]
            have := ESL.out
            show es.length ≤ 1073741824
            omega
          have RS := rscan_any w6 w.heap.size r es A c R6 (fun e he => (OKL.out e he).kb) (by have := ESL.out; omega) [] (by simp) 1073741824
          rw [FE, show strB [] = (⟨#[]⟩ : ByteArray) from rfl] at RS
          have RS := Lib.hid RS
          have R66 := Lib.hid R6
          clear hM hK T6 HD FE R6 HRR HT BR
          go_wp2_with fail
          refine RT.out.mono ?_
          rintro e w7 ⟨rfl, rfl⟩
          go_wp2_with fail
          refine RS.out.mono ?_
          rintro e w7 ⟨vw, rfl, hO, hb7⟩
          obtain ⟨Aw, cw, rfl, _, _⟩ := hO.any
          have OW7 : Hid (OwnP w7 w.heap.size (.slice Aw es.length cw) es) := OwnP.base_ hO B6.out.size
          have M7 := Lib.hid (M6.out.under hb7)
          have R7 : Hid (RefP w7 w.heap.size r es A c) := ⟨R66.out.blk.below hb7 R66.out.blk.lt, R66.out.own.below_ hb7⟩
          have B7 : Hid (Below w.heap.size w w7) := B6.out.trans (hb7.mono B6.out.size)
          have OP2 : Hid (Calls Tryz.prog 10 #[.iface 24 (.pointer (some ⟨p, 0, none⟩)), .int .i64 (root : Int)] w7 fun x w' => ∃ t, x = .returned (.pointer (some ⟨t, 0, none⟩)) ∧ w7.heap.size ≤ t ∧ TreeO w' t p root ∧ Below w7.heap.size w7 w') := open_any w7 p root
          obtain ⟨ms, hms⟩ : ∃ x, x = es.length := ⟨_, rfl⟩
          rw [← hms] at OW7 ESL ⊢
          have HMS := Lib.hid hms
          clear hO hb7 RS RT M6 R66 B6 hms
          go_wp2_with fail
          refine OP2.out.mono ?_
          rintro e w8 ⟨t2, rfl, ht2, hT2, hb8⟩
          have BO2 : Hid (Both w.heap.size w8 t2 p 4096 r es bs (heldF f)) :=
            ⟨⟨root, heldF f, bs, ⟨hT2, M7.out.under hb8, LIES.out.held, OKL.out, Nat.le_refl _, Nat.le_trans B7.out.size ht2⟩, HF.out.hold LIES.out, fun v _ => rfl⟩, ⟨A, c, R7.out.blk.below hb8 R7.out.blk.lt, R7.out.own.below_ hb8⟩, RLO.out⟩
          have OW8 := Lib.hid (OW7.out.below_ hb8)
          have B8 : Hid (Below w.heap.size w w8) := B7.out.trans (hb8.mono B7.out.size)
          have BSL : Hid (bs.length ≤ 120) := by
            have h1 := LIES.out.few
            have h2 := ESL.out
            have h3 := HMS.out
            show _ ≤ _
            omega
          clear ht2 hT2 hb8 OP2 M7 R7 OW7 B7
          go_wp2_with fail
          go_loopw [11] (fun vi wr => ∃ (i : Nat) (es2 : List En), i ≤ n2 ∧ vi = .int .i64 i ∧ Hid (Both w.heap.size wr t2 p 4096 r es2 bs (heldF f) ∧ es2.length ≤ 60 + i ∧ Below w.heap.size w wr ∧ OwnP wr w.heap.size (.slice Aw ms cw) es)) (fun vi _ => n2 - (intOf vi).toNat)
          case atStart => exact ⟨0, es, by omega, rfl, BO2.out, by have h1 := ESL.out; have h2 := HMS.out; omega, B8.out, OW8.out⟩
          case round =>
            clear BO2 OW8 B8
            obtain ⟨i, es2, hi, rfl, G⟩ := hrel
            have ln := L2.out
            by_cases hlt : i < n2
            · obtain ⟨b, off, rfl, hb, x0, x1, x2, x3⟩ := (H2.out.kept G.out.2.2.1).get hlt
              have ST := Lib.hid (step_any w.heap.size wr t2 p 4096 r es2 bs (heldF f) G.out.1 (by have := G.out.2.1; omega) (by have h1 := G.out.2.1; have h2 := BSL.out; omega) (l2 i) (H2.out.1 i hlt))
              have SL : Hid ((stepE es2 (l2 i)).length ≤ 60 + (i + 1)) := Nat.le_trans (stepE_length G.out.1.rises (l2 i)) (by have := G.out.2.1; omega)
              have GB := Lib.hid G.out.2.2.1
              have GW := Lib.hid G.out.2.2.2
              unfold OT.cells at ST
              have im : (i : Int) < (n2 : Int) := by omega
              have lim : (i : Int) ≤ 60 := by omega
              clear hlt ln G
              go_wp2_with fail
              refine ST.out.mono ?_
              rintro e w9 ⟨rfl, hBo, hK⟩
              have BO := Lib.hid hBo
              have B9 : Hid (Below w.heap.size w w9) := GB.out.trans (hK.below GB.out.size)
              have W9 : Hid (OwnP w9 w.heap.size (.slice Aw ms cw) es) := hK.row GW.out (by decide)
              clear hBo hK ST x0 x1 x2 x3 hb
              go_wp2_with fail
              go_roundw
              case rel => exact ⟨i + 1, _, by omega, by go_num, BO.out, SL.out, B9.out, W9.out⟩
              case measure => simp [intOf]; omega
            · obtain rfl : i = n2 := by omega
              obtain ⟨root2, f2, bs2, L, F, S2⟩ := G.out.1.tree
              obtain ⟨A', c', R⟩ := G.out.1.ref
              have E2L : Hid (es2.length ≤ 120) := by have h1 := G.out.2.1; have h2 := L2.out; show _ ≤ _; omega
              have OLD : Hid (Tree f2 root es bs) := LIES.out.held.same S2
              have OP3 : Hid (Calls Tryz.prog 10 #[.iface 24 (.pointer (some ⟨p, 0, none⟩)), .int .i64 (root : Int)] wr fun x w' => ∃ t, x = .returned (.pointer (some ⟨t, 0, none⟩)) ∧ wr.heap.size ≤ t ∧ TreeO w' t p root ∧ Below wr.heap.size wr w') := open_any wr p root
              have LL := Lib.hid L
              have RR := Lib.hid R
              have WW := Lib.hid G.out.2.2.2
              have BB := Lib.hid G.out.2.2.1
              have FE : (fromE es []).take (1073741824 : Int).toNat = es := by
                rw [fromE_none, List.take_of_length_le]
                have h1 := ESL.out
                have h2 := HMS.out
                show es.length ≤ 1073741824
                omega
              have FE2 : (fromE es2 []).take (1073741824 : Int).toNat = es2 := by
                rw [fromE_none, List.take_of_length_le]
                have h1 := E2L.out
                show es2.length ≤ 1073741824
                omega
              have FEE := Lib.hid (And.intro FE FE2)
              clear hlt ln L F S2 R G FE FE2
              go_wp2_with fail
              refine OP3.out.mono ?_
              rintro e w10 ⟨t3, rfl, ht3, hT3, hb10⟩
              have L10 : LiveT w.heap.size w10 t3 p root 4096 f2 es bs := ⟨hT3, LL.out.mem.under hb10, OLD.out, OKL.out, Nat.le_refl _, Nat.le_trans BB.out.size ht3⟩
              have SC := tscan_any w.heap.size w10 t3 p root 4096 f2 es bs L10 (deep_of (by have h1 := ESL.out; have h2 := HMS.out; omega)) (by have h1 := ESL.out; have h2 := HMS.out; omega) [] (by simp) 1073741824 (by omega) (by omega)
              unfold ScanA at SC
              rw [FEE.out.1, show strB [] = (⟨#[]⟩ : ByteArray) from rfl] at SC
              have SC := Lib.hid SC
              have LL2 := Lib.hid (LL.out.under hb10)
              have R10 : Hid (RefP w10 w.heap.size r es2 A' c') := ⟨RR.out.blk.below hb10 RR.out.blk.lt, RR.out.own.below_ hb10⟩
              have W10 := Lib.hid (WW.out.below_ hb10)
              have B10 : Hid (Below w.heap.size w w10) := BB.out.trans (hb10.mono BB.out.size)
              clear ht3 hT3 hb10 OP3 L10 LL RR WW BB
              go_wp2_with fail
              refine SC.out.mono ?_
              rintro e w11 ⟨v, rfl, hO, hb11⟩
              obtain ⟨A5, c5, rfl, _, _⟩ := hO.any
              have O11 : Hid (OwnP w11 w.heap.size (.slice A5 es.length c5) es) := OwnP.base_ hO B10.out.size
              have LL3 := Lib.hid (LL2.out.under hb11)
              have R11 : Hid (RefP w11 w.heap.size r es2 A' c') := ⟨R10.out.blk.below hb11 R10.out.blk.lt, R10.out.own.below_ hb11⟩
              have W11 := Lib.hid (W10.out.below_ hb11)
              have B11 : Hid (Below w.heap.size w w11) := B10.out.trans (hb11.mono B10.out.size)
              have RT := Lib.hid (root_any w11 t2 p root2 LL3.out.tree)
              rw [← HMS.out] at O11 ⊢
              clear hO hb11 SC LL2 R10 W10 B10
              go_wp2_with fail
              refine RT.out.mono ?_
              rintro e w12 ⟨rfl, rfl⟩
              have OP4 : Hid (Calls Tryz.prog 10 #[.iface 24 (.pointer (some ⟨p, 0, none⟩)), .int .i64 (root2 : Int)] w11 fun x w' => ∃ t, x = .returned (.pointer (some ⟨t, 0, none⟩)) ∧ w11.heap.size ≤ t ∧ TreeO w' t p root2 ∧ Below w11.heap.size w11 w') := open_any w11 p root2
              clear RT
              go_wp2_with fail
              refine OP4.out.mono ?_
              rintro e w12 ⟨t4, rfl, ht4, hT4, hb12⟩
              have L12 : LiveT w.heap.size w12 t4 p root2 4096 f2 es2 bs2 := ⟨hT4, LL3.out.mem.under hb12, LL3.out.lies, LL3.out.ok, Nat.le_refl _, Nat.le_trans B11.out.size ht4⟩
              have SC := tscan_any w.heap.size w12 t4 p root2 4096 f2 es2 bs2 L12 (deep_of (by have h1 := E2L.out; omega)) (by have h1 := E2L.out; omega) [] (by simp) 1073741824 (by omega) (by omega)
              unfold ScanA at SC
              rw [FEE.out.2, show strB [] = (⟨#[]⟩ : ByteArray) from rfl] at SC
              have SC := Lib.hid SC
              have OK2 := Lib.hid LL3.out.ok
              have R12 : Hid (RefP w12 w.heap.size r es2 A' c') := ⟨R11.out.blk.below hb12 R11.out.blk.lt, R11.out.own.below_ hb12⟩
              have W12 := Lib.hid (W11.out.below_ hb12)
              have O12 := Lib.hid (O11.out.below_ hb12)
              have B12 : Hid (Below w.heap.size w w12) := B11.out.trans (hb12.mono B11.out.size)
              clear ht4 hT4 hb12 OP4 L12 LL3 R11 W11 O11 B11
              go_wp2_with fail
              refine SC.out.mono ?_
              rintro e w13 ⟨v, rfl, hO, hb13⟩
              obtain ⟨A6, c6, rfl, _, _⟩ := hO.any
              have N13 := Lib.hid hO
              have R13 : Hid (RefP w13 w.heap.size r es2 A' c') := ⟨R12.out.blk.below hb13 R12.out.blk.lt, R12.out.own.below_ hb13⟩
              have W13 := W12.out.below_ hb13
              have O13 := O12.out.below_ hb13
              have B13 : Hid (Below w.heap.size w w13) := B12.out.trans (hb13.mono B12.out.size)
              have by1 : ∀ e ∈ es, (∀ x ∈ e.1, x < 256) ∧ ∀ x ∈ e.2, x < 256 := fun e he => ⟨(OKL.out e he).kb, (OKL.out e he).vb⟩
              have by2 : ∀ e ∈ es2, (∀ x ∈ e.1, x < 256) ∧ ∀ x ∈ e.2, x < 256 := fun e he => ⟨(OK2.out e he).kb, (OK2.out e he).vb⟩
              have SM := same_any w13 es es A5 Aw c5 cw O13.at_.2 W13.at_.2 by1 by1 (by have h1 := ESL.out; have h2 := HMS.out; omega)
              rw [← HMS.out, decide_eq_true rfl] at SM
              have SM := Lib.hid SM
              obtain ⟨m2, hm2⟩ : ∃ x, x = es2.length := ⟨_, rfl⟩
              have SM2 := Lib.hid (fun W (hW : Below w13.heap.size w13 W) => by
                have := same_any W es2 es2 A6 A' c6 c' ((N13.out.below_ hW).at_.2) ((R13.out.own.below_ hW).at_.2) by2 by2 (by have h1 := E2L.out; omega)
                rw [← hm2, decide_eq_true rfl] at this
                exact this)
              rw [← hm2]
              have HM2 := Lib.hid hm2
              clear hO hb13 SC R12 W12 O12 B12 W13 O13 by1 by2 hm2
              go_wp2_with fail
              refine SM.out.mono ?_
              rintro e w14 ⟨rfl, hb14⟩
              have S2 := Lib.hid (SM2.out w14 hb14)
              have rc := (R13.out.blk.below hb14 R13.out.blk.lt).cell 0
              have rl := (R13.out.blk.below hb14 R13.out.blk.lt).lt
              rw [← HM2.out] at rc
              have B14 : Hid (Below w.heap.size w w14) := B13.out.trans (hb14.mono B13.out.size)
              clear hb14 SM SM2
              go_wp2_with fail
              refine S2.out.mono ?_
              rintro e w15 ⟨rfl, hb15⟩
              have B15 : Hid (Below w.heap.size w w15) := B14.out.trans (hb15.mono B14.out.size)
              clear hb15 S2 rc rl
              go_wp2_with fail
              go_ret
              exact ⟨rfl, B15.out⟩
    · have i1 : ¬ (60 : Int) < (n1 : Int) := by omega
      have i2 : (60 : Int) < (n2 : Int) := by omega
      clear hn1 hn2 hl1 hl2
      go_enter Tryz.func4, Tryz.ntmps4
      go_wp2_with fail
      refine FX.out.mono ?_
      rintro e w1 ⟨rfl, hb1⟩
      have F2 := Lib.hid (BIG.out w1 hb1)
      clear hb1 FX
      go_wp2_with fail
      refine F2.out.mono ?_
      rintro e w2 ⟨rfl, hb2⟩
      have B2 := Lib.hid hb2
      clear hb2 F2
      go_wp2_with fail
      go_ret
      exact ⟨rfl, B2.out⟩
  · have i1 : (60 : Int) < (n1 : Int) := by omega
    clear hn1 hn2 hl1
    go_enter Tryz.func4, Tryz.ntmps4
    go_wp2_with fail
    refine FX.out.mono ?_
    rintro e w1 ⟨rfl, hb1⟩
    have F2 := Lib.hid (BIG.out w1 hb1)
    clear hb1 FX
    go_wp2_with fail
    refine F2.out.mono ?_
    rintro e w2 ⟨rfl, hb2⟩
    have B2 := Lib.hid hb2
    clear hb2 F2
    go_wp2_with fail
    go_ret
    exact ⟨rfl, B2.out⟩
set_option maxRecDepth 100000 in
theorem opens {H : Type} {enc : TypeId × Value → H} {W : World} {base : Nat} {args : Array Value} {ds : List (DataW H)} {p : List MemPlace}
    (hval : ∀ (j : Nat) t v, Tryz.f4.params[j]? = some t → args[j]? = some v → Value.okWide Tryz.prog W .any base t v)
    (hA : DataW.TrodAll enc Tryz.prog W 0 (fun _ => true) true Tryz.f4.params.toList args.toList ds p) (hlt : ∀ x ∈ p, x.block < W.heap.size) (hk : Rows.uptoBulkAll ds ≤ 1048576) (hE : Env W) :
    Calls Tryz.prog 4 args W fun e W' => e = .returned (.bool true) ∧ Below W.heap.size W W' := by
  rw [Tryz.params4] at hA hval
  obtain ⟨v0, vs0, d0, ds0, p0, q0, hargs, rfl, rfl, h0, r0⟩ := trodAll_cons hA
  obtain ⟨v1, vs1, d1, ds1, p1, q1, rfl, rfl, rfl, h1, r1⟩ := trodAll_cons r0
  obtain ⟨rfl, rfl, rfl⟩ := trodAll_nil r1
  obtain rfl : args = #[v0, v1] := Array.toList_inj.1 hargs
  have _hE := hE
  obtain ⟨A1, n1, c1, l1, rfl, hl1, hn1⟩ := open_ops06 (hval 0 22 v0 rfl rfl) h0
  obtain ⟨A2, n2, c2, l2, rfl, hl2, hn2⟩ := open_ops06 (hval 1 22 v1 rfl rfl) h1
  exact walk W A1 A2 n1 c1 n2 c2 l1 l2 hl1 hl2 hn1 hn2
theorem witness_row (os : Os) {H : Type} (enc : TypeId × Value → H) :
    (Rows.OpenSpec.upto Rows.btreeCopiesSpec).preRow enc Tryz.prog Tryz.f4 Rows.btreeCopiesUptoRow.domain false Rows.btreeCopiesUptoRow.laid ((startW os).forCall (fun _ _ => 0) ⟨#[], #[.slice none 0 0, .slice none 0 0], []⟩).memory #[.slice none 0 0, .slice none 0 0] := by
  have hw : (DataW.whole enc Tryz.prog ((startW os).forCall (fun _ _ => 0) ⟨#[], #[.slice none 0 0, .slice none 0 0], []⟩).memory Tryz.f4.params.toList Rows.btreeCopiesSpec.vars false (#[.slice none 0 0, .slice none 0 0] : Array Value).toList 8).map (fun x => (x.1, x.2.1)) =
      some ([.nil, .nil], []) := by kernel_rfl
  obtain ⟨⟨x1, x2, x3⟩, hx, hx1⟩ := Option.map_eq_some_iff.1 hw
  simp only [Prod.mk.injEq] at hx1
  obtain ⟨rfl, rfl⟩ := hx1
  exact OpenSpec.preRow_of_cond 8 hx (by kernel_rfl) (fun k hk => by cases hk; kernel_rfl) (by kernel_rfl) (door_met os _)
set_option maxRecDepth 100000 in
theorem lifted (os : Os) (started : os.Started) (H : Type) (enc : TypeId × Value → H) (F : Stop.Interp) :
    ReturnsInHanded {} Tryz.checked os 4 .any ((Rows.OpenSpec.upto Rows.btreeCopiesSpec).preRow enc Tryz.prog Tryz.f4 Rows.btreeCopiesUptoRow.domain false Rows.btreeCopiesUptoRow.laid) (((Rows.OpenSpec.upto Rows.btreeCopiesSpec).at F).post enc Tryz.prog Tryz.f4 false true false false) := by
  refine returnsInHanded_of_row (C := Tryz.checked) (s := Rows.OpenSpec.upto Rows.btreeCopiesSpec) own started (by kernel_rfl) Tryz.func4
    (witness_row_atRef (enc := enc) (C := Tryz.checked) false (startW os) #[.slice none 0 0, .slice none 0 0] rfl (by kernel_rfl) (by kernel_rfl) (by kernel_rfl) (witness_row os enc)) ?_
  intro W base args ds gs before hval hW _ hcond _ hL _ _
  have hk := hcond _ rfl
  refine law_calls (s := Rows.btreeCopiesSpec) laidOut Tryz.underlying4 rfl (by rw [Tryz.params4]; exact of_decide_eq_true (by kernel_rfl)) rfl (fun ds h => by match ds, h with | [_, _], _ => rfl) hW ?_
  obtain ⟨rfl, p, hA, hlt⟩ := law_args rfl hW
  have hb : Rows.uptoBulkAll (ds ++ []) ≤ 1048576 := of_decide_eq_true hk
  rw [List.append_nil] at hb
  exact opens hval hA hlt hb (env_of hL)

theorem saidUpto : Rows.BtreeCopiesUptoSaid :=
  OpenClaim.holds_of_cond 4 Tryz.f4 rfl rfl rfl rfl rfl rfl rfl ⟨rfl, rfl, rfl, rfl, rfl⟩ rfl rfl rfl rfl rfl (by kernel_rfl) Tryz.func4 (by kernel_rfl)
    (of_decide_eq_true (by kernel_rfl)) (by unfold Func.isWrapper; first | (rw [if_pos (by decide +kernel)]; kernel_rfl) | (rw [if_neg (by decide +kernel)]; exact ⟨rfl, rfl⟩))
    (fun os started H enc _ F => by rw [OpenClaim.pre_eq_preRow]; exact lifted os started H enc F)
theorem plain (f : FuncId) (fn : Func) (hf : Tryz.pinned.checked.prog.funcNamed "docket/docketlaw06.BtreeCopies" = some f) (hfn : Tryz.pinned.checked.prog.funcs[f]? = some fn) :
    true = Tryz.pinned.checked.prog.looks [] ∧ ∀ (j : Nat) t, fn.params[j]? = some t → Tryz.pinned.checked.prog.wantsStandIn t = false := by
  obtain rfl : f = 4 := Option.some.inj ((show Tryz.prog.funcNamed "docket/docketlaw06.BtreeCopies" = some 4 by kernel_rfl).symm.trans hf) |>.symm
  obtain rfl : fn = Tryz.f4 := (Option.some.inj (Tryz.func4.symm.trans hfn)).symm
  exact ⟨by kernel_rfl, fun j t ht => (of_decide_eq_true (p := ∀ t ∈ Tryz.f4.params.toList, Tryz.prog.wantsStandIn t = false) (by kernel_rfl)) t (Array.mem_toList_iff.2 (Array.mem_of_getElem? ht))⟩
theorem proved : Rows.BtreeCopiesUptoCardSaid :=
  Claim7.holds_tied_plain_at .later [] _ _ _ _ saidUpto (fun _ h => by cases h) (by kernel_rfl) (fun _ h => by cases h) btreeCopiesUpto_row_tie rfl ⟨rfl, rfl⟩ (by kernel_rfl) rfl plain (by kernel_rfl)

end Go.Proofs.YtldmllmkckklhaaGreatDoor.btreeCopies
