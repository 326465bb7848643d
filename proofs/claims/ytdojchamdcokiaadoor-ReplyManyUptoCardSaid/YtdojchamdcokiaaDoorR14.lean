/-
  reply: statusLine, lengthLine, Reason, Good.
-/
import Derived.Test.YtdojchamdcokiaaDoorR13
namespace Go.Proofs.YtdojchamdcokiaaDoor
open Go.RowKit Reply

theorem status_sum {d z : ByteArray} {st : Int} (hd : d = S (Lib.itoa st)) (hz : z = S (reason st)) : (⟨#[72, 84, 84, 80, 47, 49, 46, 49, 32]⟩ : ByteArray) ++ d ++ ⟨#[32]⟩ ++ z = S (statusLine st) := by
  rw [hd, hz, show (⟨#[72, 84, 84, 80, 47, 49, 46, 49, 32]⟩ : ByteArray) = S version from rfl, show (⟨#[32]⟩ : ByteArray) = S [32] from rfl, S_append, S_append, S_append]
  rfl
set_option maxRecDepth 100000 in
set_option maxHeartbeats 4000000 in
theorem statusline_any (w : World) (E : Env w) (st : Int) (hs : st ∈ table.map (·.1)) :
    Calls Tryd.prog 13 #[.int .i64 st] w fun e w' => e = .returned (.string (S (statusLine st))) ∧ Below w.heap.size w w' := by
  have IS := status_is hs
  have IT := Lib.hid (itoa_any w E st (by omega) (by omega))
  have RR := Lib.hid (fun u => reason_any st u)
  obtain ⟨z, hz⟩ : ∃ x, x = S (reason st) := ⟨_, rfl⟩
  obtain ⟨d, hd⟩ : ∃ x, x = S (Lib.itoa st) := ⟨_, rfl⟩
  have SM := Lib.hid (status_sum hd hz)
  have zs : z.size ≤ 40 := by rw [hz, S_size]; exact reason_len st
  have ds : d.size ≤ 1001 := by rw [hd, S_size, itoa_pos IS.1]; have := dec_len st.toNat; omega
  have k1 : ¬ 9223372036854775807 < 9 + d.size := by omega
  have k2 : ¬ 9223372036854775807 < 9 + d.size + 1 := by omega
  have k3 : ¬ 9223372036854775807 < 9 + d.size + 1 + z.size := by omega
  rw [← hd] at IT
  rw [← hz] at RR
  clear hz hd IS hs E
  go_enter Tryd.func13, Tryd.ntmps13
  go_wp2_with fail
  refine IT.out.mono ?_
  rintro e w1 ⟨rfl, hb1⟩
  have B1 := Lib.hid hb1
  clear hb1 IT
  go_wp2_with fail
  refine (RR.out _).mono ?_
  rintro e w' ⟨rfl, rfl⟩
  go_wp2_with fail
  go_ret
  exact ⟨ret_str SM.out, B1.out⟩
set_option maxRecDepth 100000 in
set_option maxHeartbeats 4000000 in
theorem lengthline_any (w : World) (E : Env w) (k : Nat) (hk : k ≤ 1048576) :
    Calls Tryd.prog 14 #[.int .i64 (k : Int)] w fun e w' => e = .returned (.string (S (lenLine k))) ∧ Below w.heap.size w w' := by
  have IT := Lib.hid (itoa_any w E (k : Int) (by omega) (by omega))
  obtain ⟨d, hd⟩ : ∃ x, x = S (Lib.itoa (k : Int)) := ⟨_, rfl⟩
  have SM : Hid ((⟨#[67, 111, 110, 116, 101, 110, 116, 45, 76, 101, 110, 103, 116, 104, 58, 32]⟩ : ByteArray) ++ d = S (lenLine k)) := by
    show _ = _
    rw [hd, show (⟨#[67, 111, 110, 116, 101, 110, 116, 45, 76, 101, 110, 103, 116, 104, 58, 32]⟩ : ByteArray) = S lengthName from rfl, S_append]
    rfl
  have ds : d.size ≤ 1048577 := by rw [hd, S_size, itoa_nat]; have := dec_len k; omega
  have k1 : ¬ 9223372036854775807 < 16 + d.size := by omega
  rw [← hd] at IT
  clear hd E
  go_enter Tryd.func14, Tryd.ntmps14
  go_wp2_with fail
  refine IT.out.mono ?_
  rintro e w1 ⟨rfl, hb1⟩
  have B1 := Lib.hid hb1
  clear hb1 IT
  go_wp2_with fail
  go_ret
  exact ⟨ret_str SM.out, B1.out⟩
set_option maxRecDepth 100000 in
set_option maxHeartbeats 4000000 in
theorem freason_any (w : World) (st : Int) :
    Calls Tryd.prog 9 #[.int .i64 st] w fun e w' => e = .returned (.string (S (reason st))) ∧ Below w.heap.size w w' := by
  have RR := Lib.hid (reason_any st w)
  have CL := Lib.hid (fclone_any w (S (reason st)) (by rw [S_size]; have := reason_len st; omega))
  obtain ⟨z, hz⟩ : ∃ x, x = S (reason st) := ⟨_, rfl⟩
  rw [← hz] at RR CL
  have HZ := Lib.hid hz
  clear hz
  go_enter Tryd.func9, Tryd.ntmps9
  go_wp2_with fail
  refine RR.out.mono ?_
  rintro e w' ⟨rfl, rfl⟩
  go_wp2_with fail
  refine CL.out.mono ?_
  rintro e w1 ⟨rfl, hb1⟩
  have B1 := Lib.hid hb1
  clear hb1 CL RR
  go_wp2_with fail
  go_ret
  exact ⟨ret_str HZ.out, B1.out⟩
set_option maxRecDepth 100000 in
set_option maxHeartbeats 8000000 in
theorem fgood_any (w : World) (r : Rs) (A : Option Addr) (c : Nat) (hf : RFit r) (hA : HAt w A r.headers) :
    Calls Tryd.prog 10 #[rV r A c] w fun e w' => e = .returned (.bool (good r)) ∧ Below w.heap.size w w' := by
  have HF := Lib.hid hf
  have HA := Lib.hid hA
  unfold rV
  obtain ⟨n, hn⟩ : ∃ n, n = r.headers.length := ⟨_, rfl⟩
  obtain ⟨bs, hbs⟩ : ∃ x, x = S r.body := ⟨_, rfl⟩
  obtain ⟨m, hm⟩ : ∃ x, x = r.body.length := ⟨_, rfl⟩
  have hbz : bs.size = m := by rw [hbs, S_size, hm]
  have fb : bs.toList.isEmpty = decide (r.body = []) := by rw [hbs]; exact S_empty _
  obtain ⟨st, hst⟩ : ∃ x, x = r.status := ⟨_, rfl⟩
  obtain ⟨hd, hhd⟩ : ∃ x, x = r.head := ⟨_, rfl⟩
  obtain ⟨cl, hcl⟩ : ∃ x, x = r.close := ⟨_, rfl⟩
  have RR := Lib.hid (fun u => reason_any st u)
  obtain ⟨z, hz⟩ : ∃ x, x = S (reason st) := ⟨_, rfl⟩
  have fz : z.toList.isEmpty = decide (reason st = []) := by rw [hz]; exact S_empty _
  rw [← hn, ← hbs, ← hst, ← hhd, ← hcl]
  rw [← hz] at RR
  have HN := Lib.hid hn
  have HM0 := Lib.hid hm
  have HST := Lib.hid hst
  have hnb : n ≤ 1048576 := by rw [hn]; exact hf.n
  have hmb : m ≤ 1048576 := by rw [hm]; exact hf.body
  obtain ⟨W0, hW0⟩ : ∃ x, x = w.alloc (.cells #[.int .i64 st, .slice A n c, .string bs, .bool hd, .bool cl] 24) := ⟨_, rfl⟩
  have HW0 := Lib.hid hW0
  have C0 : Hid (W0.cell? ⟨w.heap.size, 0, none⟩ = some (.int .i64 st)) := by show _ = _; rw [hW0, World.cell?_alloc_mark]; rfl
  have C2 : Hid (W0.cell? ⟨w.heap.size, 2, none⟩ = some (.string bs)) := by show _ = _; rw [hW0, World.cell?_alloc_mark]; rfl
  have W0S : Hid (W0.heap.size = w.heap.size + 1) := by show _ = _; rw [hW0]; exact World.size_alloc _ _
  have B0 : Hid (Below w.heap.size w W0) := by show Below _ _ _; rw [hW0]; exact (Below.refl _ _).alloc (Nat.le_refl _) _
  clear hn hbs hhd hcl hz hf hA hW0 hm
  by_cases g0 : reason st = []
  · have F : Hid (good r = false) := bad_reason (by rw [← hst]; exact g0)
    rw [decide_eq_true g0] at fz
    clear g0 hst fb hbz
    go_enter Tryd.func10, Tryd.ntmps10
    go_wp2_with fail
    refine (RR.out _).mono ?_
    rintro e w' ⟨rfl, rfl⟩
    go_wp2
    go_ret
    exact ⟨ret_bool F.out.symm, (Below.refl _ _).alloc (Nat.le_refl _) _⟩
  · rw [decide_eq_false g0] at fz
    have HR : Hid (reason r.status ≠ []) := by show _ ≠ _; rw [← hst]; exact g0
    by_cases g1 : 32 < n
    · have F : Hid (good r = false) := bad_count (by rw [← HN.out]; exact g1)
      have g1z : (32 : Int) < (n : Int) := by omega
      clear g0 hst fb hbz
      go_enter Tryd.func10, Tryd.ntmps10
      go_wp2_with fail
      refine (RR.out _).mono ?_
      rintro e w' ⟨rfl, rfl⟩
      go_wp2
      go_ret
      exact ⟨ret_bool F.out.symm, (Below.refl _ _).alloc (Nat.le_refl _) _⟩
    · have g1z : ¬ (32 : Int) < (n : Int) := by omega
      by_cases g2 : 65536 < m
      · have F : Hid (good r = false) := bad_body (by rw [← HM0.out]; exact g2)
        have g2z : (65536 : Int) < (bs.size : Int) := by omega
        clear g0 hst fb hbz
        go_enter Tryd.func10, Tryd.ntmps10
        go_wp2_with fail
        refine (RR.out _).mono ?_
        rintro e w' ⟨rfl, rfl⟩
        go_wp2
        go_ret
        exact ⟨ret_bool F.out.symm, (Below.refl _ _).alloc (Nat.le_refl _) _⟩
      · have g2z : ¬ (65536 : Int) < (bs.size : Int) := by omega
        have HBZ : Hid (r.body.length ≤ 65536) := by show _ ≤ _; rw [← HM0.out]; omega
        clear g0 hst hbz
        go_enter Tryd.func10, Tryd.ntmps10
        go_wp2_with fail
        refine (RR.out _).mono ?_
        rintro e w' ⟨rfl, rfl⟩
        clear RR
        go_wp2
        go_loopw [4, 24] (fun _ v3 wr => ∃ k : Nat, k ≤ n ∧ v3 = .int .i64 k ∧ Hid ((∀ h ∈ r.headers.take k, hdr h = true) ∧ Below (w.heap.size + 1) W0 wr)) (fun _ v _ => n - (intOf v).toNat)
        case atStart => exact ⟨0, by omega, rfl, by simp, by rw [HW0.out]; exact Below.refl _ _⟩
        case round =>
          obtain ⟨k, hk, rfl, G⟩ := hrel
          have BB : Hid (Below w.heap.size w wr) := B0.out.trans (G.out.2.mono (by omega))
          by_cases hlt : k < n
          · have hkl : Hid (k < r.headers.length) := by show k < _; rw [← HN.out]; exact hlt
            obtain ⟨h, hh⟩ : ∃ h, h = r.headers[k]'hkl.out := ⟨_, rfl⟩
            have HM : Hid (h ∈ r.headers) := by show h ∈ _; rw [hh]; exact List.getElem_mem _
            have HH := Lib.hid hh
            obtain ⟨g, off, rfl, a0, a1⟩ := (HA.out.below BB.out).at_ hkl.out
            rw [← hh] at a0 a1
            have IH := Lib.hid (fun u => isheader_any u h (Nat.le_trans (HF.out.each h HM.out).1 (by decide)) (Nat.le_trans (HF.out.each h HM.out).2 (by decide)))
            unfold hV at IH
            obtain ⟨ns, hns⟩ : ∃ x, x = S h.1 := ⟨_, rfl⟩
            obtain ⟨vs, hvs⟩ : ∃ x, x = S h.2 := ⟨_, rfl⟩
            have BR : Hid (Below w.heap.size w (wr.alloc (.cells #[.string ns, .string vs] 37))) := BB.out.alloc BB.out.size _
            have kz : (k : Int) < (n : Int) := by omega
            rw [← hns, ← hvs] at IH
            rw [← hns] at a0
            rw [← hvs] at a1
            clear hh hns hvs
            cases t1 : hdr h
            · have F := Lib.hid (bad_head HM.out t1)
              rw [t1] at IH
              clear t1
              go_wp2_with fail
              refine (IH.out _).mono ?_
              rintro e w2 ⟨rfl, hb2⟩
              have B2 := Lib.hid (BR.out.trans (hb2.mono (by simp; have := BR.out.size; simp at this; exact this)))
              clear hb2 IH
              go_wp2_with fail
              go_ret
              exact ⟨ret_bool F.out.symm, B2.out⟩
            · have T1 := Lib.hid t1
              rw [t1] at IH
              clear t1
              go_wp2_with fail
              refine (IH.out _).mono ?_
              rintro e w2 ⟨rfl, hb2⟩
              have BW2 : Hid (Below (w.heap.size + 1) W0 w2) := (G.out.2.alloc (by have := G.out.2.size; rw [W0S.out] at this; exact this) _).trans (hb2.mono (by simp; have := G.out.2.size; rw [W0S.out] at this; omega))
              have G2 : Hid ((∀ h ∈ r.headers.take (k + 1), hdr h = true) ∧ Below (w.heap.size + 1) W0 w2) := ⟨fun d hd => by
                rw [List.take_add_one, List.getElem?_eq_getElem hkl.out, ← HH.out] at hd
                rcases List.mem_append.1 hd with hd | hd
                · exact G.out.1 d hd
                · have : d = h := by simpa using hd
                  rw [this]
                  exact T1.out, BW2.out⟩
              clear hb2 IH
              go_wp2_with fail
              go_roundw
              case rel => exact ⟨k + 1, by omega, by go_num, G2⟩
              case measure => simp [intOf]; omega
          · obtain rfl : k = n := by omega
            have c0 := (G.out.2.cell (p := ⟨w.heap.size, 0, none⟩) (by simp)).trans C0.out
            have c2 := (G.out.2.cell (p := ⟨w.heap.size, 2, none⟩) (by simp)).trans C2.out
            have GA : Hid (∀ h ∈ r.headers, hdr h = true) := by have := G.out.1; show ∀ h ∈ _, _; rwa [HN.out, List.take_length] at this
            by_cases g3 : st = 204
            · have s1 : (st == 204) = true := by rw [g3]; rfl
              have s2 : (st != 204) = false := by rw [g3]; rfl
              have GS : Hid (r.status = 204) := by show _ = _; rw [← HST.out]; exact g3
              clear g3
              by_cases g4 : r.body = []
              · have F : Hid (good r = true) := good_all HR.out (by rw [← HN.out]; omega) HBZ.out GA.out (fun _ => g4)
                rw [decide_eq_true g4] at fb
                clear g4
                go_wp2
                go_ret
                exact ⟨ret_bool F.out.symm, BB.out⟩
              · have F : Hid (good r = false) := bad_none GS.out g4
                rw [decide_eq_false g4] at fb
                clear g4
                go_wp2
                go_ret
                exact ⟨ret_bool F.out.symm, BB.out⟩
            · have s1 : (st == 204) = false := by rw [beq_eq_false_iff_ne]; exact g3
              have s2 : (st != 204) = true := by rw [bne_iff_ne]; exact g3
              have F : Hid (good r = true) := good_all HR.out (by rw [← HN.out]; omega) HBZ.out GA.out (fun h => absurd (HST.out.trans h) g3)
              clear g3 fb
              go_wp2
              go_ret
              exact ⟨ret_bool F.out.symm, BB.out⟩
end Go.Proofs.YtdojchamdcokiaaDoor
