/-
  reply: Write.
-/
import Derived.Test.YtdojchamdcokiaaDoorR15
namespace Go.Proofs.YtdojchamdcokiaaDoor
open Go.RowKit Reply

theorem lenLine_len (k : Nat) : (lenLine k).length ≤ k + 17 := by
  unfold lenLine
  rw [itoa_nat]
  have := dec_len k
  have e : lengthName.length = 16 := rfl
  simp only [List.length_append]
  omega
theorem hdrLine_len (h : B × B) : (hdrLine h).length = h.1.length + 2 + h.2.length + 2 := by
  unfold hdrLine
  have e1 : crlf.length = 2 := rfl
  have e2 : colon.length = 2 := rfl
  simp only [List.length_append]
  omega
set_option maxRecDepth 100000 in
set_option maxHeartbeats 16000000 in
theorem fwrite_any (w : World) (E : Env w) (r : Rs) (A : Option Addr) (c : Nat) (hf : RFit r) (hA : HAt w A r.headers) :
    Calls Tryd.prog 6 #[rV r A c] w fun e w' => e = .returned (wroteV r) ∧ Below w.heap.size w w' := by
  have HE := Lib.hid E
  have HF := Lib.hid hf
  have HA := Lib.hid hA
  have GD := Lib.hid (fun u (h : HAt u A r.headers) => fgood_any u r A c hf h)
  unfold rV at GD ⊢
  obtain ⟨n, hn⟩ : ∃ n, n = r.headers.length := ⟨_, rfl⟩
  obtain ⟨bs, hbs⟩ : ∃ x, x = S r.body := ⟨_, rfl⟩
  obtain ⟨st, hst⟩ : ∃ x, x = r.status := ⟨_, rfl⟩
  obtain ⟨hd, hhd⟩ : ∃ x, x = r.head := ⟨_, rfl⟩
  obtain ⟨cl, hcl⟩ : ∃ x, x = r.close := ⟨_, rfl⟩
  obtain ⟨m, hm⟩ : ∃ x, x = r.body.length := ⟨_, rfl⟩
  have hbz : (bs.size : Int) = (m : Int) := by rw [hbs, S_size, hm]
  rw [← hn, ← hbs, ← hst, ← hhd, ← hcl] at GD ⊢
  obtain ⟨W0, hW0⟩ : ∃ x, x = w.alloc (.cells #[.int .i64 st, .slice A n c, .string bs, .bool hd, .bool cl] 24) := ⟨_, rfl⟩
  have HW0 := Lib.hid hW0
  have HLD : Hid (Held W0 w.heap.size 24 #[.int .i64 st, .slice A n c, .string bs, .bool hd, .bool cl]) := by show Held _ _ _ _; rw [hW0]; exact Held.new _ _ _ rfl
  have B0 : Hid (Below w.heap.size w W0) := by show Below _ _ _; rw [hW0]; exact (Below.refl _ _).alloc (Nat.le_refl _) _
  have HBS := Lib.hid hbs
  have HHD := Lib.hid hhd
  have HMM := Lib.hid hm
  have HN := Lib.hid hn
  have HST := Lib.hid hst
  have HCL := Lib.hid hcl
  have HBZ := Lib.hid hbz
  clear hn hbs hst hhd hcl hm hf hA hW0 E hbz
  cases g : good r
  · have E : Hid (wroteV r = .tuple #[.string ⟨#[]⟩, .int .i64 1]) := by show _ = _; unfold wroteV; rw [g]; rfl
    rw [g] at GD
    clear g
    go_enter Tryd.func6, Tryd.ntmps6
    go_wp2_with fail
    rw [← HW0.out]
    refine (GD.out _ (HA.out.below B0.out)).mono ?_
    rintro x w1 ⟨rfl, hb1⟩
    have B1 := Lib.hid (B0.out.trans (hb1.mono B0.out.size))
    clear hb1 GD
    go_wp2_with fail
    go_ret2
    exact ⟨by rw [E.out]; rfl, B1.out⟩
  · have GP := Lib.hid (good_parts g)
    have E : Hid (wroteV r = .tuple #[.string (S (form r)), .int .i64 0]) := by show _ = _; unfold wroteV; rw [g]; rfl
    have SI := Lib.hid (status_is GP.out.1)
    have m8 : m ≤ 65536 := by rw [HMM.out]; exact GP.out.2.2.1
    have n8 : n ≤ 32 := by rw [HN.out]; exact GP.out.2.1
    rw [g] at GD
    clear g
    go_enter Tryd.func6, Tryd.ntmps6
    go_wp2_with fail
    rw [← HW0.out]
    refine (GD.out _ (HA.out.below B0.out)).mono ?_
    rintro x w1 ⟨rfl, hb1⟩
    have B1 := Lib.hid (B0.out.trans (hb1.mono B0.out.size))
    have L1 := Lib.hid (HLD.out.below hb1 HLD.out.lt)
    clear hb1 GD
    obtain ⟨wb, hwb⟩ : ∃ x, x = w1.alloc (.cells #[.pointer none, .slice none 0 0] 43) := ⟨_, rfl⟩
    have HWB := Lib.hid hwb
    obtain ⟨b, hb⟩ : ∃ x, x = w1.heap.size := ⟨_, rfl⟩
    have HBB := Lib.hid hb
    have LTB : Hid (w.heap.size < b) := by show _ < _; rw [hb]; exact L1.out.lt
    have S0 : Hid (BldU wb b b [] ∧ Below b w1 wb) := by
      refine ⟨?_, ?_⟩
      · rw [hwb]; exact BldU.new w1 b b hb (by rw [hb]; exact Nat.le_refl _)
      · rw [hwb]; exact (Below.refl _ _).alloc (by rw [hb]; exact Nat.le_refl _) _
    clear hwb hb
    have SZ : Hid (∀ u, Below b w1 u → b ≤ u.heap.size) := fun u k => by rw [HBB.out]; exact k.size
    have BX : Hid (∀ u, Below b w1 u → Below w.heap.size w u) := fun u k => B1.out.trans (k.mono (Nat.le_of_lt LTB.out))
    have LX : Hid (∀ u, Below b w1 u → Held u w.heap.size 24 #[.int .i64 st, .slice A n c, .string bs, .bool hd, .bool cl]) := fun u k => L1.out.below k LTB.out
    have d0 := L1.out.cell 0
    have x0 : (w1.alloc (.cells #[.pointer none, .slice none 0 0] 43)).cell? ⟨w.heap.size, 0, none⟩ = some (.int .i64 st) := by rw [← HWB.out]; exact (LX.out wb S0.out.2).cell 0
    have ltq : w.heap.size < w1.heap.size := L1.out.lt
    have SL := Lib.hid (statusline_any wb (HE.out.below (BX.out wb S0.out.2)) st (by rw [HST.out]; exact GP.out.1))
    obtain ⟨sl, hsl⟩ : ∃ x, x = S (statusLine st) := ⟨_, rfl⟩
    rw [← hsl] at SL
    have HSL := Lib.hid hsl
    clear hsl
    go_wp2_with fail
    rw [← HWB.out, ← HBB.out]
    refine SL.out.mono ?_
    rintro x w2 ⟨rfl, hb2⟩
    have S2 : Hid (BldU w2 b b [] ∧ Below b w1 w2) := ⟨S0.out.1.below hb2, S0.out.2.trans (hb2.mono (SZ.out _ S0.out.2))⟩
    clear hb2 SL x0 d0 ltq
    have slen : (statusLine st).length ≤ 1100 := by rw [HST.out]; exact statusLine_len r.status SI.out.1 SI.out.2.1

    obtain ⟨T3, hT3⟩ : ∃ x : B, x = [] ++ [statusLine st, crlf].flatten := ⟨_, rfl⟩
    have zT3 : T3.length ≤ 2000 := by rw [hT3]; simp only [List.length_append, List.flatten_cons, List.flatten_nil, List.length_nil]; have e1 : crlf.length = 2 := rfl; omega
    have AW : Hid (Below w2.heap.size w2 (w2.alloc (.cells #[.string sl, .string ⟨#[13, 10]⟩] 9))) := (Below.refl _ _).alloc (Nat.le_refl _) _
    have AD := Lib.hid (add_any (w2.alloc (.cells #[.string sl, .string ⟨#[13, 10]⟩] 9)) b b [] (some ⟨w2.heap.size, 0, none⟩) 2 2 [statusLine st, crlf] rfl (S2.out.1.below AW.out) (parts_two w2 HSL.out rfl) (by rw [← List.length_append, ← hT3]; omega) (Nat.le_trans (SZ.out _ S2.out.2) AW.out.size) (by omega))
    rw [← hT3] at AD
    have HT3 := Lib.hid hT3
    clear hT3
    go_wp2_with fail
    refine AD.out.mono ?_
    rintro x w3 ⟨rfl, g1, g2⟩
    have S3 : Hid (BldU w3 b b T3 ∧ Below b w1 w3) := ⟨g1, S2.out.2.trans ((AW.out.mono (SZ.out _ S2.out.2)).trans (g2.mono (Nat.le_refl _)))⟩
    clear g1 g2 AD AW

    have T0 : Hid (T3 = statusLine st ++ crlf ++ hdrLines (r.headers.take 0)) := by show _ = _; rw [HT3.out]; simp [hdrLines]
    have y1 := (LX.out w3 S3.out.2).cell 1
    go_wp2_with fail
    clear slen
    go_loopw [7, 21] (fun _ i wr => ∃ (j : Nat) (T : B), j ≤ n ∧ i = .int .i64 j ∧ Hid (T = statusLine st ++ crlf ++ hdrLines (r.headers.take j)) ∧ T.length ≤ 2000 + j * 4194304 ∧ Hid (BldU wr b b T ∧ Below b w1 wr)) (fun _ i _ => n - (intOf i).toNat)
    case atStart => exact ⟨0, T3, by omega, rfl, T0, by omega, S3⟩
    case round =>
      obtain ⟨j, T, hj, rfl, HT, hTl, SR⟩ := hrel
      have LR := Lib.hid (LX.out wr SR.out.2)
      by_cases hlt : j < n
      · have hjl : Hid (j < r.headers.length) := by show j < _; rw [← HN.out]; exact hlt
        obtain ⟨h, hh⟩ : ∃ h, h = r.headers[j]'hjl.out := ⟨_, rfl⟩
        have HM : h ∈ r.headers := by rw [hh]; exact List.getElem_mem _
        have LN := (HF.out.each h HM).1
        have LV := (HF.out.each h HM).2
        obtain ⟨g, off, rfl, a0, a1⟩ := (HA.out.below (BX.out wr SR.out.2)).at_ hjl.out
        rw [← hh] at a0 a1
        obtain ⟨ns, hns⟩ : ∃ x, x = S h.1 := ⟨_, rfl⟩
        obtain ⟨vs, hvs⟩ : ∃ x, x = S h.2 := ⟨_, rfl⟩
        rw [← hns] at a0
        rw [← hvs] at a1
        have HTN : Hid (T ++ hdrLine h = statusLine st ++ crlf ++ hdrLines (r.headers.take (j + 1))) := by show _ = _; rw [HT.out, lines_next hjl.out, ← hh]; simp only [List.append_assoc]
        have HNS := Lib.hid hns
        have HVS := Lib.hid hvs
        have jz : (j : Int) < (n : Int) := by omega
        have jb : (j : Int) ≤ 32 := by omega
        have hdl : Hid ((hdrLine h).length ≤ 4194304) := by show _ ≤ _; rw [hdrLine_len]; omega
        have HZ : Hid (wr.heap.size + 1 = (wr.alloc (.cells #[.string ns, .string vs] 37)).heap.size) := by show _ = _; simp
        clear hh hns hvs HM
        obtain ⟨T4, hT4⟩ : ∃ x : B, x = T ++ [h.1, colon, h.2, crlf].flatten := ⟨_, rfl⟩
        have zT4 : T4.length ≤ 2000 + (j + 1) * 4194304 := by rw [hT4]; simp only [List.length_append, List.flatten_cons, List.flatten_nil, List.length_nil]; have e1 : crlf.length = 2 := rfl; have e2 : colon.length = 2 := rfl; omega
        have AW : Hid (Below wr.heap.size wr ((wr.alloc (.cells #[.string ns, .string vs] 37)).alloc (.cells #[.string ns, .string ⟨#[58, 32]⟩, .string vs, .string ⟨#[13, 10]⟩] 9))) := ((Below.refl _ _).alloc (Nat.le_refl _) _).alloc (by simp) _
        have AD := Lib.hid (add_any ((wr.alloc (.cells #[.string ns, .string vs] 37)).alloc (.cells #[.string ns, .string ⟨#[58, 32]⟩, .string vs, .string ⟨#[13, 10]⟩] 9)) b b T (some ⟨wr.heap.size + 1, 0, none⟩) 4 4 [h.1, colon, h.2, crlf] rfl (SR.out.1.below AW.out) (by rw [HZ.out]; exact parts_four _ HNS.out rfl HVS.out rfl) (by rw [← List.length_append, ← hT4]; omega) (Nat.le_trans (SZ.out _ SR.out.2) AW.out.size) (by omega))
        rw [← hT4] at AD
        have HT4 := Lib.hid hT4
        clear hT4
        go_wp2_with fail
        refine AD.out.mono ?_
        rintro x w4 ⟨rfl, g1, g2⟩
        have S4 : Hid (BldU w4 b b T4 ∧ Below b w1 w4) := ⟨g1, SR.out.2.trans ((AW.out.mono (SZ.out _ SR.out.2)).trans (g2.mono (Nat.le_refl _)))⟩
        clear g1 g2 AD AW
        have HTE : Hid (T4 = statusLine st ++ crlf ++ hdrLines (r.headers.take (j + 1))) := by show _ = _; rw [HT4.out, ← HTN.out]; unfold hdrLine; simp
        go_wp2_with fail
        go_roundw
        case rel => exact ⟨j + 1, T4, by omega, by go_num, HTE, by omega, S4⟩
        case measure => simp [intOf]; omega
      · obtain rfl : j = n := by omega
        have HH : Hid (T = statusLine r.status ++ crlf ++ hdrLines r.headers) := by show _ = _; rw [HT.out, HN.out, List.take_length, HST.out]
        have hT2 : T.length ≤ 134219728 := by omega
        have c0 := LR.out.cell 0
        have c2 := LR.out.cell 2
        have c3 := LR.out.cell 3
        have c4 := LR.out.cell 4
        have hbz := HBZ.out
        clear hTl
        by_cases g : st = 204
        · skip
          have g1 : (st == 204) = true := by rw [g]; rfl
          have g2' : (st != 204) = false := by rw [g]; rfl
          have GS : Hid (r.status = 204) := by show _ = _; rw [← HST.out]; exact g
          clear g
          cases cl
          · skip
            obtain ⟨T7, hT7⟩ : ∃ x : B, x = T ++ [crlf].flatten := ⟨_, rfl⟩
            have zT7 : T7.length ≤ 134219738 := by rw [hT7]; simp only [List.length_append, List.flatten_cons, List.flatten_nil, List.length_nil]; have e1 : crlf.length = 2 := rfl; omega
            have AW : Hid (Below wr.heap.size wr (wr.alloc (.cells #[.string ⟨#[13, 10]⟩] 9))) := (Below.refl _ _).alloc (Nat.le_refl _) _
            have AD := Lib.hid (add_any (wr.alloc (.cells #[.string ⟨#[13, 10]⟩] 9)) b b T (some ⟨wr.heap.size, 0, none⟩) 1 1 [crlf] rfl (SR.out.1.below AW.out) (parts_one wr (p := crlf) rfl) (by rw [← List.length_append, ← hT7]; omega) (Nat.le_trans (SZ.out _ SR.out.2) AW.out.size) (by omega))
            rw [← hT7] at AD
            have HT7 := Lib.hid hT7
            clear hT7
            go_wp2_with fail
            refine AD.out.mono ?_
            rintro x w7 ⟨rfl, g1, g2⟩
            have S7 : Hid (BldU w7 b b T7 ∧ Below b w1 w7) := ⟨g1, SR.out.2.trans ((AW.out.mono (SZ.out _ SR.out.2)).trans (g2.mono (Nat.le_refl _)))⟩
            clear g1 g2 AD AW
            have v2 := (LX.out w7 S7.out.2).cell 2
            have v3 := (LX.out w7 S7.out.2).cell 3
            cases hd
            · skip
              obtain ⟨T8, hT8⟩ : ∃ x : B, x = T7 ++ [r.body].flatten := ⟨_, rfl⟩
              have zT8 : T8.length ≤ 134289728 := by rw [hT8]; simp only [List.length_append, List.flatten_cons, List.flatten_nil, List.length_nil]; have e9 := HMM.out; omega
              have AW : Hid (Below w7.heap.size w7 (w7.alloc (.cells #[.string bs] 9))) := (Below.refl _ _).alloc (Nat.le_refl _) _
              have AD := Lib.hid (add_any (w7.alloc (.cells #[.string bs] 9)) b b T7 (some ⟨w7.heap.size, 0, none⟩) 1 1 [r.body] rfl (S7.out.1.below AW.out) (parts_one w7 HBS.out) (by rw [← List.length_append, ← hT8]; omega) (Nat.le_trans (SZ.out _ S7.out.2) AW.out.size) (by omega))
              rw [← hT8] at AD
              have HT8 := Lib.hid hT8
              clear hT8
              go_wp2_with fail
              refine AD.out.mono ?_
              rintro x w8 ⟨rfl, g1, g2⟩
              have S8 : Hid (BldU w8 b b T8 ∧ Below b w1 w8) := ⟨g1, S7.out.2.trans ((AW.out.mono (SZ.out _ S7.out.2)).trans (g2.mono (Nat.le_refl _)))⟩
              clear g1 g2 AD AW

              have FE : Hid (T8 = form r) := by
                show _ = _
                rw [HT8.out, HT7.out, HH.out]
                unfold form top
                rw [if_pos GS.out, ← HHD.out, ← HCL.out]
                simp
              have TX := Lib.hid (textU b b T8 w8 S8.out.1 (SZ.out _ S8.out.2))
              rw [FE.out] at TX
              obtain ⟨fr, hfr⟩ : ∃ x, x = S (form r) := ⟨_, rfl⟩
              rw [← hfr] at TX E
              clear hfr
              go_wp2_with fail
              refine TX.out.mono ?_
              rintro x w9 ⟨rfl, g2⟩
              have B9 := Lib.hid (BX.out w9 (S8.out.2.trans g2))
              clear g2 TX
              go_wp2_with fail
              go_ret2
              exact ⟨by rw [E.out]; rfl, B9.out⟩
            · skip
              have FE : Hid (T7 = form r) := by
                show _ = _
                rw [HT7.out, HH.out]
                unfold form top
                rw [if_pos GS.out, ← HHD.out, ← HCL.out]
                simp
              have TX := Lib.hid (textU b b T7 w7 S7.out.1 (SZ.out _ S7.out.2))
              rw [FE.out] at TX
              obtain ⟨fr, hfr⟩ : ∃ x, x = S (form r) := ⟨_, rfl⟩
              rw [← hfr] at TX E
              clear hfr
              go_wp2_with fail
              refine TX.out.mono ?_
              rintro x w9 ⟨rfl, g2⟩
              have B9 := Lib.hid (BX.out w9 (S7.out.2.trans g2))
              clear g2 TX
              go_wp2_with fail
              go_ret2
              exact ⟨by rw [E.out]; rfl, B9.out⟩
          · skip
            obtain ⟨T6, hT6⟩ : ∃ x : B, x = T ++ [closeLine, crlf].flatten := ⟨_, rfl⟩
            have zT6 : T6.length ≤ 134219758 := by rw [hT6]; simp only [List.length_append, List.flatten_cons, List.flatten_nil, List.length_nil]; have e1 : crlf.length = 2 := rfl; have e3 : closeLine.length = 17 := rfl; omega
            have AW : Hid (Below wr.heap.size wr (wr.alloc (.cells #[.string ⟨#[67, 111, 110, 110, 101, 99, 116, 105, 111, 110, 58, 32, 99, 108, 111, 115, 101]⟩, .string ⟨#[13, 10]⟩] 9))) := (Below.refl _ _).alloc (Nat.le_refl _) _
            have AD := Lib.hid (add_any (wr.alloc (.cells #[.string ⟨#[67, 111, 110, 110, 101, 99, 116, 105, 111, 110, 58, 32, 99, 108, 111, 115, 101]⟩, .string ⟨#[13, 10]⟩] 9)) b b T (some ⟨wr.heap.size, 0, none⟩) 2 2 [closeLine, crlf] rfl (SR.out.1.below AW.out) (parts_two wr (p := closeLine) (q := crlf) rfl rfl) (by rw [← List.length_append, ← hT6]; omega) (Nat.le_trans (SZ.out _ SR.out.2) AW.out.size) (by omega))
            rw [← hT6] at AD
            have HT6 := Lib.hid hT6
            clear hT6
            go_wp2_with fail
            refine AD.out.mono ?_
            rintro x w6 ⟨rfl, g1, g2⟩
            have S6 : Hid (BldU w6 b b T6 ∧ Below b w1 w6) := ⟨g1, SR.out.2.trans ((AW.out.mono (SZ.out _ SR.out.2)).trans (g2.mono (Nat.le_refl _)))⟩
            clear g1 g2 AD AW

            obtain ⟨T7, hT7⟩ : ∃ x : B, x = T6 ++ [crlf].flatten := ⟨_, rfl⟩
            have zT7 : T7.length ≤ 134219768 := by rw [hT7]; simp only [List.length_append, List.flatten_cons, List.flatten_nil, List.length_nil]; have e1 : crlf.length = 2 := rfl; omega
            have AW : Hid (Below w6.heap.size w6 (w6.alloc (.cells #[.string ⟨#[13, 10]⟩] 9))) := (Below.refl _ _).alloc (Nat.le_refl _) _
            have AD := Lib.hid (add_any (w6.alloc (.cells #[.string ⟨#[13, 10]⟩] 9)) b b T6 (some ⟨w6.heap.size, 0, none⟩) 1 1 [crlf] rfl (S6.out.1.below AW.out) (parts_one w6 (p := crlf) rfl) (by rw [← List.length_append, ← hT7]; omega) (Nat.le_trans (SZ.out _ S6.out.2) AW.out.size) (by omega))
            rw [← hT7] at AD
            have HT7 := Lib.hid hT7
            clear hT7
            go_wp2_with fail
            refine AD.out.mono ?_
            rintro x w7 ⟨rfl, g1, g2⟩
            have S7 : Hid (BldU w7 b b T7 ∧ Below b w1 w7) := ⟨g1, S6.out.2.trans ((AW.out.mono (SZ.out _ S6.out.2)).trans (g2.mono (Nat.le_refl _)))⟩
            clear g1 g2 AD AW
            have v2 := (LX.out w7 S7.out.2).cell 2
            have v3 := (LX.out w7 S7.out.2).cell 3
            cases hd
            · skip
              obtain ⟨T8, hT8⟩ : ∃ x : B, x = T7 ++ [r.body].flatten := ⟨_, rfl⟩
              have zT8 : T8.length ≤ 134289758 := by rw [hT8]; simp only [List.length_append, List.flatten_cons, List.flatten_nil, List.length_nil]; have e9 := HMM.out; omega
              have AW : Hid (Below w7.heap.size w7 (w7.alloc (.cells #[.string bs] 9))) := (Below.refl _ _).alloc (Nat.le_refl _) _
              have AD := Lib.hid (add_any (w7.alloc (.cells #[.string bs] 9)) b b T7 (some ⟨w7.heap.size, 0, none⟩) 1 1 [r.body] rfl (S7.out.1.below AW.out) (parts_one w7 HBS.out) (by rw [← List.length_append, ← hT8]; omega) (Nat.le_trans (SZ.out _ S7.out.2) AW.out.size) (by omega))
              rw [← hT8] at AD
              have HT8 := Lib.hid hT8
              clear hT8
              go_wp2_with fail
              refine AD.out.mono ?_
              rintro x w8 ⟨rfl, g1, g2⟩
              have S8 : Hid (BldU w8 b b T8 ∧ Below b w1 w8) := ⟨g1, S7.out.2.trans ((AW.out.mono (SZ.out _ S7.out.2)).trans (g2.mono (Nat.le_refl _)))⟩
              clear g1 g2 AD AW

              have FE : Hid (T8 = form r) := by
                show _ = _
                rw [HT8.out, HT7.out, HT6.out, HH.out]
                unfold form top
                rw [if_pos GS.out, ← HHD.out, ← HCL.out]
                simp
              have TX := Lib.hid (textU b b T8 w8 S8.out.1 (SZ.out _ S8.out.2))
              rw [FE.out] at TX
              obtain ⟨fr, hfr⟩ : ∃ x, x = S (form r) := ⟨_, rfl⟩
              rw [← hfr] at TX E
              clear hfr
              go_wp2_with fail
              refine TX.out.mono ?_
              rintro x w9 ⟨rfl, g2⟩
              have B9 := Lib.hid (BX.out w9 (S8.out.2.trans g2))
              clear g2 TX
              go_wp2_with fail
              go_ret2
              exact ⟨by rw [E.out]; rfl, B9.out⟩
            · skip
              have FE : Hid (T7 = form r) := by
                show _ = _
                rw [HT7.out, HT6.out, HH.out]
                unfold form top
                rw [if_pos GS.out, ← HHD.out, ← HCL.out]
                simp
              have TX := Lib.hid (textU b b T7 w7 S7.out.1 (SZ.out _ S7.out.2))
              rw [FE.out] at TX
              obtain ⟨fr, hfr⟩ : ∃ x, x = S (form r) := ⟨_, rfl⟩
              rw [← hfr] at TX E
              clear hfr
              go_wp2_with fail
              refine TX.out.mono ?_
              rintro x w9 ⟨rfl, g2⟩
              have B9 := Lib.hid (BX.out w9 (S7.out.2.trans g2))
              clear g2 TX
              go_wp2_with fail
              go_ret2
              exact ⟨by rw [E.out]; rfl, B9.out⟩
        · skip
          have g1 : (st == 204) = false := by rw [beq_eq_false_iff_ne]; exact g
          have g2' : (st != 204) = true := by rw [bne_iff_ne]; exact g
          have GS : Hid (¬ r.status = 204) := by show ¬ _; rw [← HST.out]; exact g
          have LN := Lib.hid (lengthline_any wr (HE.out.below (BX.out wr SR.out.2)) m (by omega))
          have lnl := lenLine_len m
          obtain ⟨ll, hll⟩ : ∃ x, x = S (lenLine m) := ⟨_, rfl⟩
          rw [← hll] at LN
          have HLL := Lib.hid hll
          clear g hll
          go_wp2_with fail
          refine LN.out.mono ?_
          rintro x wl ⟨rfl, hb3⟩
          have SS : Hid (BldU wl b b T ∧ Below b w1 wl) := ⟨SR.out.1.below hb3, SR.out.2.trans (hb3.mono (SZ.out _ SR.out.2))⟩
          clear hb3 LN

          obtain ⟨T5, hT5⟩ : ∃ x : B, x = T ++ [lenLine m, crlf].flatten := ⟨_, rfl⟩
          have zT5 : T5.length ≤ 134300000 := by rw [hT5]; simp only [List.length_append, List.flatten_cons, List.flatten_nil, List.length_nil]; have e1 : crlf.length = 2 := rfl; omega
          have AW : Hid (Below wl.heap.size wl (wl.alloc (.cells #[.string ll, .string ⟨#[13, 10]⟩] 9))) := (Below.refl _ _).alloc (Nat.le_refl _) _
          have AD := Lib.hid (add_any (wl.alloc (.cells #[.string ll, .string ⟨#[13, 10]⟩] 9)) b b T (some ⟨wl.heap.size, 0, none⟩) 2 2 [lenLine m, crlf] rfl (SS.out.1.below AW.out) (parts_two wl HLL.out rfl) (by rw [← List.length_append, ← hT5]; omega) (Nat.le_trans (SZ.out _ SS.out.2) AW.out.size) (by omega))
          rw [← hT5] at AD
          have HT5 := Lib.hid hT5
          clear hT5
          go_wp2_with fail
          refine AD.out.mono ?_
          rintro x w5 ⟨rfl, g1, g2⟩
          have S5 : Hid (BldU w5 b b T5 ∧ Below b w1 w5) := ⟨g1, SS.out.2.trans ((AW.out.mono (SZ.out _ SS.out.2)).trans (g2.mono (Nat.le_refl _)))⟩
          clear g1 g2 AD AW

          have u2 := (LX.out w5 S5.out.2).cell 2
          have u3 := (LX.out w5 S5.out.2).cell 3
          have u4 := (LX.out w5 S5.out.2).cell 4
          cases cl
          · skip
            obtain ⟨T7, hT7⟩ : ∃ x : B, x = T5 ++ [crlf].flatten := ⟨_, rfl⟩
            have zT7 : T7.length ≤ 134300010 := by rw [hT7]; simp only [List.length_append, List.flatten_cons, List.flatten_nil, List.length_nil]; have e1 : crlf.length = 2 := rfl; omega
            have AW : Hid (Below w5.heap.size w5 (w5.alloc (.cells #[.string ⟨#[13, 10]⟩] 9))) := (Below.refl _ _).alloc (Nat.le_refl _) _
            have AD := Lib.hid (add_any (w5.alloc (.cells #[.string ⟨#[13, 10]⟩] 9)) b b T5 (some ⟨w5.heap.size, 0, none⟩) 1 1 [crlf] rfl (S5.out.1.below AW.out) (parts_one w5 (p := crlf) rfl) (by rw [← List.length_append, ← hT7]; omega) (Nat.le_trans (SZ.out _ S5.out.2) AW.out.size) (by omega))
            rw [← hT7] at AD
            have HT7 := Lib.hid hT7
            clear hT7
            go_wp2_with fail
            refine AD.out.mono ?_
            rintro x w7 ⟨rfl, g1, g2⟩
            have S7 : Hid (BldU w7 b b T7 ∧ Below b w1 w7) := ⟨g1, S5.out.2.trans ((AW.out.mono (SZ.out _ S5.out.2)).trans (g2.mono (Nat.le_refl _)))⟩
            clear g1 g2 AD AW
            have v2 := (LX.out w7 S7.out.2).cell 2
            have v3 := (LX.out w7 S7.out.2).cell 3
            cases hd
            · skip
              obtain ⟨T8, hT8⟩ : ∃ x : B, x = T7 ++ [r.body].flatten := ⟨_, rfl⟩
              have zT8 : T8.length ≤ 134370000 := by rw [hT8]; simp only [List.length_append, List.flatten_cons, List.flatten_nil, List.length_nil]; have e9 := HMM.out; omega
              have AW : Hid (Below w7.heap.size w7 (w7.alloc (.cells #[.string bs] 9))) := (Below.refl _ _).alloc (Nat.le_refl _) _
              have AD := Lib.hid (add_any (w7.alloc (.cells #[.string bs] 9)) b b T7 (some ⟨w7.heap.size, 0, none⟩) 1 1 [r.body] rfl (S7.out.1.below AW.out) (parts_one w7 HBS.out) (by rw [← List.length_append, ← hT8]; omega) (Nat.le_trans (SZ.out _ S7.out.2) AW.out.size) (by omega))
              rw [← hT8] at AD
              have HT8 := Lib.hid hT8
              clear hT8
              go_wp2_with fail
              refine AD.out.mono ?_
              rintro x w8 ⟨rfl, g1, g2⟩
              have S8 : Hid (BldU w8 b b T8 ∧ Below b w1 w8) := ⟨g1, S7.out.2.trans ((AW.out.mono (SZ.out _ S7.out.2)).trans (g2.mono (Nat.le_refl _)))⟩
              clear g1 g2 AD AW

              have FE : Hid (T8 = form r) := by
                show _ = _
                rw [HT8.out, HT7.out, HT5.out, HH.out]
                unfold form top
                rw [if_neg GS.out, ← HMM.out, ← HHD.out, ← HCL.out]
                simp
              have TX := Lib.hid (textU b b T8 w8 S8.out.1 (SZ.out _ S8.out.2))
              rw [FE.out] at TX
              obtain ⟨fr, hfr⟩ : ∃ x, x = S (form r) := ⟨_, rfl⟩
              rw [← hfr] at TX E
              clear hfr
              go_wp2_with fail
              refine TX.out.mono ?_
              rintro x w9 ⟨rfl, g2⟩
              have B9 := Lib.hid (BX.out w9 (S8.out.2.trans g2))
              clear g2 TX
              go_wp2_with fail
              go_ret2
              exact ⟨by rw [E.out]; rfl, B9.out⟩
            · skip
              have FE : Hid (T7 = form r) := by
                show _ = _
                rw [HT7.out, HT5.out, HH.out]
                unfold form top
                rw [if_neg GS.out, ← HMM.out, ← HHD.out, ← HCL.out]
                simp
              have TX := Lib.hid (textU b b T7 w7 S7.out.1 (SZ.out _ S7.out.2))
              rw [FE.out] at TX
              obtain ⟨fr, hfr⟩ : ∃ x, x = S (form r) := ⟨_, rfl⟩
              rw [← hfr] at TX E
              clear hfr
              go_wp2_with fail
              refine TX.out.mono ?_
              rintro x w9 ⟨rfl, g2⟩
              have B9 := Lib.hid (BX.out w9 (S7.out.2.trans g2))
              clear g2 TX
              go_wp2_with fail
              go_ret2
              exact ⟨by rw [E.out]; rfl, B9.out⟩
          · skip
            obtain ⟨T6, hT6⟩ : ∃ x : B, x = T5 ++ [closeLine, crlf].flatten := ⟨_, rfl⟩
            have zT6 : T6.length ≤ 134300030 := by rw [hT6]; simp only [List.length_append, List.flatten_cons, List.flatten_nil, List.length_nil]; have e1 : crlf.length = 2 := rfl; have e3 : closeLine.length = 17 := rfl; omega
            have AW : Hid (Below w5.heap.size w5 (w5.alloc (.cells #[.string ⟨#[67, 111, 110, 110, 101, 99, 116, 105, 111, 110, 58, 32, 99, 108, 111, 115, 101]⟩, .string ⟨#[13, 10]⟩] 9))) := (Below.refl _ _).alloc (Nat.le_refl _) _
            have AD := Lib.hid (add_any (w5.alloc (.cells #[.string ⟨#[67, 111, 110, 110, 101, 99, 116, 105, 111, 110, 58, 32, 99, 108, 111, 115, 101]⟩, .string ⟨#[13, 10]⟩] 9)) b b T5 (some ⟨w5.heap.size, 0, none⟩) 2 2 [closeLine, crlf] rfl (S5.out.1.below AW.out) (parts_two w5 (p := closeLine) (q := crlf) rfl rfl) (by rw [← List.length_append, ← hT6]; omega) (Nat.le_trans (SZ.out _ S5.out.2) AW.out.size) (by omega))
            rw [← hT6] at AD
            have HT6 := Lib.hid hT6
            clear hT6
            go_wp2_with fail
            refine AD.out.mono ?_
            rintro x w6 ⟨rfl, g1, g2⟩
            have S6 : Hid (BldU w6 b b T6 ∧ Below b w1 w6) := ⟨g1, S5.out.2.trans ((AW.out.mono (SZ.out _ S5.out.2)).trans (g2.mono (Nat.le_refl _)))⟩
            clear g1 g2 AD AW

            obtain ⟨T7, hT7⟩ : ∃ x : B, x = T6 ++ [crlf].flatten := ⟨_, rfl⟩
            have zT7 : T7.length ≤ 134300040 := by rw [hT7]; simp only [List.length_append, List.flatten_cons, List.flatten_nil, List.length_nil]; have e1 : crlf.length = 2 := rfl; omega
            have AW : Hid (Below w6.heap.size w6 (w6.alloc (.cells #[.string ⟨#[13, 10]⟩] 9))) := (Below.refl _ _).alloc (Nat.le_refl _) _
            have AD := Lib.hid (add_any (w6.alloc (.cells #[.string ⟨#[13, 10]⟩] 9)) b b T6 (some ⟨w6.heap.size, 0, none⟩) 1 1 [crlf] rfl (S6.out.1.below AW.out) (parts_one w6 (p := crlf) rfl) (by rw [← List.length_append, ← hT7]; omega) (Nat.le_trans (SZ.out _ S6.out.2) AW.out.size) (by omega))
            rw [← hT7] at AD
            have HT7 := Lib.hid hT7
            clear hT7
            go_wp2_with fail
            refine AD.out.mono ?_
            rintro x w7 ⟨rfl, g1, g2⟩
            have S7 : Hid (BldU w7 b b T7 ∧ Below b w1 w7) := ⟨g1, S6.out.2.trans ((AW.out.mono (SZ.out _ S6.out.2)).trans (g2.mono (Nat.le_refl _)))⟩
            clear g1 g2 AD AW
            have v2 := (LX.out w7 S7.out.2).cell 2
            have v3 := (LX.out w7 S7.out.2).cell 3
            cases hd
            · skip
              obtain ⟨T8, hT8⟩ : ∃ x : B, x = T7 ++ [r.body].flatten := ⟨_, rfl⟩
              have zT8 : T8.length ≤ 134370030 := by rw [hT8]; simp only [List.length_append, List.flatten_cons, List.flatten_nil, List.length_nil]; have e9 := HMM.out; omega
              have AW : Hid (Below w7.heap.size w7 (w7.alloc (.cells #[.string bs] 9))) := (Below.refl _ _).alloc (Nat.le_refl _) _
              have AD := Lib.hid (add_any (w7.alloc (.cells #[.string bs] 9)) b b T7 (some ⟨w7.heap.size, 0, none⟩) 1 1 [r.body] rfl (S7.out.1.below AW.out) (parts_one w7 HBS.out) (by rw [← List.length_append, ← hT8]; omega) (Nat.le_trans (SZ.out _ S7.out.2) AW.out.size) (by omega))
              rw [← hT8] at AD
              have HT8 := Lib.hid hT8
              clear hT8
              go_wp2_with fail
              refine AD.out.mono ?_
              rintro x w8 ⟨rfl, g1, g2⟩
              have S8 : Hid (BldU w8 b b T8 ∧ Below b w1 w8) := ⟨g1, S7.out.2.trans ((AW.out.mono (SZ.out _ S7.out.2)).trans (g2.mono (Nat.le_refl _)))⟩
              clear g1 g2 AD AW

              have FE : Hid (T8 = form r) := by
                show _ = _
                rw [HT8.out, HT7.out, HT6.out, HT5.out, HH.out]
                unfold form top
                rw [if_neg GS.out, ← HMM.out, ← HHD.out, ← HCL.out]
                simp
              have TX := Lib.hid (textU b b T8 w8 S8.out.1 (SZ.out _ S8.out.2))
              rw [FE.out] at TX
              obtain ⟨fr, hfr⟩ : ∃ x, x = S (form r) := ⟨_, rfl⟩
              rw [← hfr] at TX E
              clear hfr
              go_wp2_with fail
              refine TX.out.mono ?_
              rintro x w9 ⟨rfl, g2⟩
              have B9 := Lib.hid (BX.out w9 (S8.out.2.trans g2))
              clear g2 TX
              go_wp2_with fail
              go_ret2
              exact ⟨by rw [E.out]; rfl, B9.out⟩
            · skip
              have FE : Hid (T7 = form r) := by
                show _ = _
                rw [HT7.out, HT6.out, HT5.out, HH.out]
                unfold form top
                rw [if_neg GS.out, ← HMM.out, ← HHD.out, ← HCL.out]
                simp
              have TX := Lib.hid (textU b b T7 w7 S7.out.1 (SZ.out _ S7.out.2))
              rw [FE.out] at TX
              obtain ⟨fr, hfr⟩ : ∃ x, x = S (form r) := ⟨_, rfl⟩
              rw [← hfr] at TX E
              clear hfr
              go_wp2_with fail
              refine TX.out.mono ?_
              rintro x w9 ⟨rfl, g2⟩
              have B9 := Lib.hid (BX.out w9 (S7.out.2.trans g2))
              clear g2 TX
              go_wp2_with fail
              go_ret2
              exact ⟨by rw [E.out]; rfl, B9.out⟩
end Go.Proofs.YtdojchamdcokiaaDoor
