/-
  reply: what the document's Top and Write answer.
-/
import Derived.Test.YtdojchamdcokiaaGreatDoorR7
import Derived.Test.YtdojchamdcokiaaGreatDoorReg
namespace Go.Proofs.YtdojchamdcokiaaGreatDoor
open Go.RowKit Reply

theorem dec_len (u : Nat) : (Lib.decDigits u).length ≤ u + 1 := by
  induction u using Nat.strongRecOn with
  | _ u ih =>
    by_cases h : u < 10
    · rw [Lib.decDigits, dif_pos h]; simp
    · rw [Lib.decDigits, dif_neg h]
      have := ih (u / 10) (by omega)
      simp
      omega
theorem reason_len (s : Int) : (reason s).length ≤ 40 := by
  by_cases h : reason s = []
  · rw [h]; simp
  · obtain ⟨p, hp, rfl⟩ := List.mem_map.1 (reason_mem h)
    have : ∀ p ∈ table, (reason p.1).length ≤ 40 := by decide
    exact this p hp
theorem line_sum {d z : ByteArray} {st : Int} (h0 : 0 ≤ st) (hd : d = S (Lib.decDigits st.toNat)) (hz : z = S (reason st)) : (⟨#[72, 84, 84, 80, 47, 49, 46, 49, 32]⟩ : ByteArray) ++ d ++ ⟨#[32]⟩ ++ z ++ ⟨#[13, 10]⟩ = S (statusLine st ++ crlf) := by
  rw [hd, hz, show (⟨#[72, 84, 84, 80, 47, 49, 46, 49, 32]⟩ : ByteArray) = S version from rfl, show (⟨#[32]⟩ : ByteArray) = S [32] from rfl, show (⟨#[13, 10]⟩ : ByteArray) = S crlf from rfl, S_append, S_append, S_append, S_append]
  unfold statusLine
  rw [itoa_pos h0]
theorem head_sum {t n v : ByteArray} {T : B} {h : B × B} (ht : t = S T) (hn : n = S h.1) (hv : v = S h.2) : t ++ n ++ ⟨#[58, 32]⟩ ++ v ++ ⟨#[13, 10]⟩ = S (T ++ hdrLine h) := by
  rw [ht, hn, hv, show (⟨#[58, 32]⟩ : ByteArray) = S colon from rfl, show (⟨#[13, 10]⟩ : ByteArray) = S crlf from rfl, S_append, S_append, S_append, S_append]
  unfold hdrLine
  simp only [List.append_assoc]
theorem lines_next {l : List (B × B)} {k : Nat} (hk : k < l.length) : hdrLines (l.take (k + 1)) = hdrLines (l.take k) ++ hdrLine (l[k]'hk) := by
  unfold hdrLines
  rw [List.take_add_one, List.getElem?_eq_getElem hk, List.flatMap_append]
  simp
theorem statusLine_len (s : Int) (h0 : 0 ≤ s) (h1 : s ≤ 1000) : (statusLine s).length ≤ 1100 := by
  unfold statusLine
  rw [itoa_pos h0]
  have a := dec_len s.toNat
  have b := reason_len s
  have c : version.length = 9 := rfl
  simp only [List.length_append, List.length_singleton]
  omega
theorem len_sum {t d : ByteArray} {T : B} {k : Nat} (ht : t = S T) (hd : d = S (Lib.decDigits k)) : t ++ (⟨#[67, 111, 110, 116, 101, 110, 116, 45, 76, 101, 110, 103, 116, 104, 58, 32]⟩ : ByteArray) ++ d ++ ⟨#[13, 10]⟩ = S (T ++ (lenLine k ++ crlf)) := by
  rw [ht, hd, show (⟨#[67, 111, 110, 116, 101, 110, 116, 45, 76, 101, 110, 103, 116, 104, 58, 32]⟩ : ByteArray) = S lengthName from rfl, show (⟨#[13, 10]⟩ : ByteArray) = S crlf from rfl, S_append, S_append, S_append]
  unfold lenLine
  rw [itoa_nat]
  simp only [List.append_assoc]
theorem close_sum {t : ByteArray} {T : B} (ht : t = S T) : t ++ (⟨#[67, 111, 110, 110, 101, 99, 116, 105, 111, 110, 58, 32, 99, 108, 111, 115, 101, 13, 10]⟩ : ByteArray) = S (T ++ (closeLine ++ crlf)) := by
  rw [ht, show (⟨#[67, 111, 110, 110, 101, 99, 116, 105, 111, 110, 58, 32, 99, 108, 111, 115, 101, 13, 10]⟩ : ByteArray) = S (closeLine ++ crlf) from rfl, S_append]
theorem end_sum {t : ByteArray} {T : B} (ht : t = S T) : t ++ (⟨#[13, 10]⟩ : ByteArray) = S (T ++ crlf) := by
  rw [ht, show (⟨#[13, 10]⟩ : ByteArray) = S crlf from rfl, S_append]
theorem top_nn {r : Rs} {k : Nat} {T : B} (hT : T = statusLine r.status ++ crlf ++ hdrLines r.headers) (h1 : r.status = 204) (h2 : r.close = false) : T ++ crlf = top r k := by
  unfold top
  rw [hT, if_pos h1, h2]
  simp
theorem top_ny {r : Rs} {k : Nat} {T : B} (hT : T = statusLine r.status ++ crlf ++ hdrLines r.headers) (h1 : r.status = 204) (h2 : r.close = true) : T ++ (closeLine ++ crlf) ++ crlf = top r k := by
  unfold top
  rw [hT, if_pos h1, h2]
  simp
theorem top_yn {r : Rs} {k : Nat} {T : B} (hT : T = statusLine r.status ++ crlf ++ hdrLines r.headers) (h1 : ¬ r.status = 204) (h2 : r.close = false) : T ++ (lenLine k ++ crlf) ++ crlf = top r k := by
  unfold top
  rw [hT, if_neg h1, h2]
  simp
theorem top_yy {r : Rs} {k : Nat} {T : B} (hT : T = statusLine r.status ++ crlf ++ hdrLines r.headers) (h1 : ¬ r.status = 204) (h2 : r.close = true) : T ++ (lenLine k ++ crlf) ++ (closeLine ++ crlf) ++ crlf = top r k := by
  unfold top
  rw [hT, if_neg h1, h2]
  simp
set_option maxRecDepth 100000 in
set_option maxHeartbeats 8000000 in
theorem top_any (w : World) (r : Rs) (A : Option Addr) (c k : Nat) (hf : RFit r) (hA : HAt w A r.headers) (hs : r.status ∈ table.map (·.1)) (hn32 : r.headers.length ≤ 32) (hk : k ≤ 1048576) :
    Calls Tryz.prog 14 #[rV r A c, .int .i64 (k : Int)] w fun e w' => e = .returned (.string (S (top r k))) ∧ Below w.heap.size w w' := by
  have HF := Lib.hid hf
  have HA := Lib.hid hA
  unfold rV
  obtain ⟨n, hn⟩ : ∃ n, n = r.headers.length := ⟨_, rfl⟩
  obtain ⟨bs, hbs⟩ : ∃ x, x = S r.body := ⟨_, rfl⟩
  obtain ⟨st, hst⟩ : ∃ x, x = r.status := ⟨_, rfl⟩
  obtain ⟨hd, hhd⟩ : ∃ x, x = r.head := ⟨_, rfl⟩
  obtain ⟨cl, hcl⟩ : ∃ x, x = r.close := ⟨_, rfl⟩
  have IS := status_is hs
  rw [← hst] at IS
  obtain ⟨sn, hsn⟩ : ∃ x : Nat, st = (x : Int) := ⟨st.toNat, by omega⟩
  have hsn1 : sn ≤ 1000 := by omega
  have RR := Lib.hid (fun u => rreason_any st u)
  have DG := Lib.hid (fun u => digits_any u sn (by omega))
  obtain ⟨z, hz⟩ : ∃ x, x = S (reason st) := ⟨_, rfl⟩
  obtain ⟨d, hdg⟩ : ∃ x, x = S (Lib.decDigits sn) := ⟨_, rfl⟩
  have LS : Hid ((⟨#[72, 84, 84, 80, 47, 49, 46, 49, 32]⟩ : ByteArray) ++ d ++ ⟨#[32]⟩ ++ z ++ ⟨#[13, 10]⟩ = S (statusLine st ++ crlf)) := line_sum IS.1 (by rw [hdg, hsn]; rfl) hz
  have LL : Hid ((statusLine st).length ≤ 1100) := statusLine_len st IS.1 IS.2.1
  have zs : z.size ≤ 40 := by rw [hz, S_size]; exact reason_len st
  have ds : d.size ≤ 1001 := by rw [hdg, S_size]; have := dec_len sn; omega
  rw [← hn, ← hbs, ← hst, ← hhd, ← hcl]
  rw [← hz] at RR
  rw [← hdg, ← hsn] at DG
  have HN := Lib.hid hn
  have hnb : n ≤ 32 := by rw [hn]; exact hn32
  obtain ⟨W0, hW0⟩ : ∃ x, x = w.alloc (.cells #[.int .i64 st, .slice A n c, .string bs, .bool hd, .bool cl] 24) := ⟨_, rfl⟩
  have HW0 := Lib.hid hW0
  have C0 : Hid (W0.cell? ⟨w.heap.size, 0, none⟩ = some (.int .i64 st)) := by show _ = _; rw [hW0, World.cell?_alloc_mark]; rfl
  have C1 : Hid (W0.cell? ⟨w.heap.size, 1, none⟩ = some (.slice A n c)) := by show _ = _; rw [hW0, World.cell?_alloc_mark]; rfl
  have C4 : Hid (W0.cell? ⟨w.heap.size, 4, none⟩ = some (.bool cl)) := by show _ = _; rw [hW0, World.cell?_alloc_mark]; rfl
  have W0S : Hid (W0.heap.size = w.heap.size + 1) := by show _ = _; rw [hW0]; exact World.size_alloc _ _
  have B0 : Hid (Below w.heap.size w W0) := by show Below _ _ _; rw [hW0]; exact (Below.refl _ _).alloc (Nat.le_refl _) _
  have HST := Lib.hid hst
  have HSN := Lib.hid hsn
  have HCL := Lib.hid hcl
  have k1 : ¬ 9223372036854775807 < 9 + d.size := by omega
  have k2 : ¬ 9223372036854775807 < 9 + d.size + 1 := by omega
  have k3 : ¬ 9223372036854775807 < 9 + d.size + 1 + z.size := by omega
  have k4 : ¬ 9223372036854775807 < 9 + d.size + 1 + z.size + 2 := by omega
  clear hn hbs hst hhd hcl hz hdg hf hA hW0 hsn IS hn32 hs zs ds
  go_enter Tryz.func14, Tryz.ntmps14
  go_upto_region 1 with fail
  rw [← HW0.out]
  refine wp_region_noPanic ?_
  refine wp_region_held_drew (S := fun w' => w'.cell? ⟨w.heap.size, 0, none⟩ = some (.int .i64 st)) (by kernel_rfl) C0.out (fun hHeld => ?_)
  refine take_ (i := 0) (v := ?_) 7 rfl rfl (by kernel_rfl) (by kernel_rfl) (by kernel_rfl) (fun _ _ _ h => h) (Or.inl ⟨by rfl, ?_⟩) (by assumption) ?_
  rotate_left
  · (intro wS hSw; (try dsimp only at hSw); go_simp; try with_reducible rfl)
  simp only [Act.put, List.setIfInBounds_toArray, List.set_cons_zero, List.set_cons_succ]
  refine take_ (i := 1) (v := ?_) 8 rfl rfl (by kernel_rfl) (by kernel_rfl) (by kernel_rfl) (fun _ _ _ h => h) (Or.inl ⟨by rfl, ?_⟩) (by assumption) ?_
  rotate_left
  · (intro wS hSw; (try dsimp only at hSw); go_simp; try with_reducible rfl)
  simp only [Act.put, List.setIfInBounds_toArray, List.set_cons_zero, List.set_cons_succ]
  refine take_ (i := 5) (v := ?_) 12 rfl rfl (by kernel_rfl) (by kernel_rfl) (by kernel_rfl) (fun _ _ _ h => h) (Or.inl ⟨by rfl, ?_⟩) (by assumption) ?_
  rotate_left
  · (intro wS hSw; (try dsimp only at hSw); go_simp; try with_reducible rfl)
  simp only [Act.put, List.setIfInBounds_toArray, List.set_cons_zero, List.set_cons_succ]
  refine take_ (i := 6) (v := ?_) 13 rfl rfl (by kernel_rfl) (by kernel_rfl) (by kernel_rfl) (fun _ _ _ h => h) (Or.inl ⟨by rfl, ?_⟩) (by assumption) ?_
  rotate_left
  · (intro wS hSw; (try dsimp only at hSw); go_simp; try with_reducible rfl)
  simp only [Act.put, List.setIfInBounds_toArray, List.set_cons_zero, List.set_cons_succ]
  refine one_ (i := 2) _ (by kernel_rfl) rfl (fun K hK => ?_)
  go_simp
  refine (DG.out _).mono ?_
  rintro x w1 ⟨rfl, hb1⟩
  dsimp only
  have B1 : Hid (Below W0.heap.size W0 w1) := ((Below.refl W0.heap.size W0).drew).trans hb1
  have c0 := (B1.out.cell (p := ⟨w.heap.size, 0, none⟩) (by rw [W0S.out]; exact Nat.lt_succ_self _)).trans C0.out
  clear hb1 DG
  refine hK.out _ _ c0 (fun hHeld => ?_)
  clear hK K
  refine take_ (i := 3) (v := ?_) 10 rfl rfl (by kernel_rfl) (by kernel_rfl) (by kernel_rfl) (fun _ _ _ h => h) (Or.inl ⟨by rfl, ?_⟩) (by assumption) ?_
  rotate_left
  · (intro wS hSw; (try dsimp only at hSw); go_simp; try with_reducible rfl)
  simp only [Act.put, List.setIfInBounds_toArray]
  refine take_ (i := 4) (v := ?_) 11 rfl rfl (by kernel_rfl) (by kernel_rfl) (by kernel_rfl) (fun _ _ _ h => h) (Or.inl ⟨by rfl, ?_⟩) (by assumption) ?_
  rotate_left
  · (intro wS hSw; (try dsimp only at hSw); go_simp; try with_reducible rfl)
  simp only [Act.put, List.setIfInBounds_toArray]
  refine one_ (i := 7) _ (by kernel_rfl) rfl (fun K hK => ?_)
  go_simp
  refine (RR.out _).mono ?_
  rintro x w' ⟨rfl, rfl⟩
  dsimp only
  refine hK.out _ _ c0 (fun hHeld => ?_)
  clear hK K
  refine take_ (i := 8) (v := ?_) 15 rfl rfl (by kernel_rfl) (by kernel_rfl) (by kernel_rfl) (fun _ _ _ h => h) (Or.inl ⟨by rfl, ?_⟩) (by assumption) ?_
  rotate_left
  · (intro wS hSw; (try dsimp only at hSw); go_simp; try with_reducible rfl)
  simp only [Act.put, List.setIfInBounds_toArray]
  refine take_ (i := 9) (v := ?_) 16 rfl rfl (by kernel_rfl) (by kernel_rfl) (by kernel_rfl) (fun _ _ _ h => h) (Or.inl ⟨by rfl, ?_⟩) (by assumption) ?_
  rotate_left
  · (intro wS hSw; (try dsimp only at hSw); go_simp; try with_reducible rfl)
  simp only [Act.put, List.setIfInBounds_toArray]
  refine take_ (i := 10) (v := ?_) 5 rfl rfl (by kernel_rfl) (by kernel_rfl) (by kernel_rfl) (fun _ _ _ h => h) (Or.inl ⟨by rfl, ?_⟩) (by assumption) ?_
  rotate_left
  · (intro wS hSw; (try dsimp only at hSw); go_simp; try with_reducible rfl)
  simp only [Act.put, List.setIfInBounds_toArray]
  refine wpAnyH_done (by kernel_rfl) ?_ _
  refine NoPanic.normal ?_
  obtain ⟨t0, ht0⟩ : ∃ t0, t0 = (⟨#[72, 84, 84, 80, 47, 49, 46, 49, 32]⟩ : ByteArray) ++ d ++ ⟨#[32]⟩ ++ z ++ ⟨#[13, 10]⟩ := ⟨_, rfl⟩
  have T0 : Hid (t0 = S (statusLine st ++ crlf ++ hdrLines (r.headers.take 0))) := by show _ = _; rw [ht0, LS.out]; simp [hdrLines]
  have Z0 : Hid ((statusLine st ++ crlf ++ hdrLines (r.headers.take 0)).length ≤ 2000 + 0 * 4194304) := by show _ ≤ _; have := LL.out; simp [hdrLines]; have e : crlf.length = 2 := rfl; omega
  rw [← ht0]
  clear ht0 k1 k2 k3 k4 LS LL RR c0
  go_wp2_with fail
  go_loopw [5, 6] (fun v i wr => ∃ (j : Nat) (T : B), j ≤ n ∧ i = .int .i64 j ∧ v = .string (S T) ∧ Hid (T = statusLine st ++ crlf ++ hdrLines (r.headers.take j)) ∧ T.length ≤ 2000 + j * 4194304 ∧ Hid (Below W0.heap.size W0 wr)) (fun _ i _ => n - (intOf i).toNat)
  case atStart => exact ⟨0, _, by omega, rfl, by rw [T0.out], rfl, Z0.out, B1⟩
  case round =>
    obtain ⟨j, T, hj, rfl, rfl, HT, hTl, HB⟩ := hrel
    have BB : Hid (Below w.heap.size w wr) := B0.out.trans (HB.out.mono (by rw [W0S.out]; exact Nat.le_succ _))
    obtain ⟨t, ht⟩ : ∃ t, t = S T := ⟨_, rfl⟩
    have hts : t.size ≤ 2000 + j * 4194304 := by rw [ht, S_size]; exact hTl
    have HTT := Lib.hid ht
    have x1 : ∀ q, (wr.drewN q).cell? ⟨w.heap.size, 1, none⟩ = some (.slice A n c) := fun _ => (HB.out.cell (p := ⟨w.heap.size, 1, none⟩) (by rw [W0S.out]; exact Nat.lt_succ_self _)).trans C1.out
    have y1 := x1 0
    have y1' : wr.cell? ⟨w.heap.size, 1, none⟩ = some (.slice A n c) := y1
    rw [← ht]
    clear ht y1
    by_cases hlt : j < n
    · have hjl : Hid (j < r.headers.length) := by show j < _; rw [← HN.out]; exact hlt
      obtain ⟨h, hh⟩ : ∃ h, h = r.headers[j]'hjl.out := ⟨_, rfl⟩
      have HM : h ∈ r.headers := by rw [hh]; exact List.getElem_mem _
      have LN := (HF.out.each h HM).1
      have LV := (HF.out.each h HM).2
      obtain ⟨g, off, rfl, a0, a1⟩ := (HA.out.below BB.out).at_ hjl.out
      rw [← hh] at a0 a1
      obtain ⟨ns, hns⟩ : ∃ x, x = S h.1 := ⟨_, rfl⟩
      obtain ⟨vs, hvs⟩ : ∃ x, x = S h.2 := ⟨_, rfl⟩
      have nz : ns.size ≤ 1048576 := by rw [hns, S_size]; exact LN
      have vz : vs.size ≤ 1048576 := by rw [hvs, S_size]; exact LV
      rw [← hns] at a0
      rw [← hvs] at a1
      have NT : Hid (t ++ ns ++ ⟨#[58, 32]⟩ ++ vs ++ ⟨#[13, 10]⟩ = S (T ++ hdrLine h)) := head_sum HTT.out hns hvs
      have HTN : Hid (T ++ hdrLine h = statusLine st ++ crlf ++ hdrLines (r.headers.take (j + 1))) := by show _ = _; rw [HT.out, lines_next hjl.out, ← hh]; simp only [List.append_assoc]
      have HZN : Hid ((T ++ hdrLine h).length ≤ 2000 + (j + 1) * 4194304) := by
        show _ ≤ _
        unfold hdrLine
        simp only [List.length_append]
        have e1 : crlf.length = 2 := rfl
        have e2 : colon.length = 2 := rfl
        omega
      have b0 : ∀ q, (wr.drewN q).cell? ⟨g, off + j * 2, none⟩ = some (.string ns) := fun _ => a0
      have b1 : ∀ q, (wr.drewN q).cell? ⟨g, off + j * 2 + 1, none⟩ = some (.string vs) := fun _ => a1
      have q1 : ¬ 9223372036854775807 < t.size + ns.size := by omega
      have q2 : ¬ 9223372036854775807 < t.size + ns.size + 2 := by omega
      have q3 : ¬ 9223372036854775807 < t.size + ns.size + 2 + vs.size := by omega
      have q4 : ¬ 9223372036854775807 < t.size + ns.size + 2 + vs.size + 2 := by omega
      have jz : (j : Int) < (n : Int) := by omega
      have jb : (j : Int) ≤ 32 := by omega
      clear hh hns hvs LN LV HM
      go_upto_region 5 with fail
      go_quiet (fail)
      rw [NT.out]
      go_wp2_with fail
      go_roundw
      case rel => exact ⟨j + 1, _, by omega, by go_num, rfl, HTN, HZN.out, below_drewN HB.out _⟩
      case measure => simp [intOf]; omega
    · obtain rfl : j = n := by omega
      have y0 : wr.cell? ⟨w.heap.size, 0, none⟩ = some (.int .i64 st) := (HB.out.cell (p := ⟨w.heap.size, 0, none⟩) (by rw [W0S.out]; exact Nat.lt_succ_self _)).trans C0.out
      have y4 : wr.cell? ⟨w.heap.size, 4, none⟩ = some (.bool cl) := (HB.out.cell (p := ⟨w.heap.size, 4, none⟩) (by rw [W0S.out]; exact Nat.lt_succ_self _)).trans C4.out
      have HH : Hid (T = statusLine r.status ++ crlf ++ hdrLines r.headers) := by show _ = _; rw [HT.out, HN.out, List.take_length, HST.out]
      have ht0 : t.size ≤ 134219728 := by omega
      have u1 : ¬ 9223372036854775807 < t.size + 2 := by omega
      have u2 : ¬ 9223372036854775807 < t.size + 19 := by omega
      have u3 : ¬ 9223372036854775807 < t.size + 19 + 2 := by omega
      clear x1
      by_cases g : st = 204
      · have g1 : (st == 204) = true := by rw [g]; rfl
        have g2 : (st != 204) = false := by rw [g]; rfl
        have GS : Hid (r.status = 204) := by show _ = _; rw [← HST.out]; exact g
        clear g
        cases cl
        · have E : Hid (t ++ (⟨#[13, 10]⟩ : ByteArray) = S (top r k)) := by show _ = _; rw [end_sum HTT.out, top_nn HH.out GS.out HCL.out.symm]
          go_wp2_with fail
          go_ret
          exact ⟨ret_str E.out, BB.out⟩
        · have E : Hid (t ++ (⟨#[67, 111, 110, 110, 101, 99, 116, 105, 111, 110, 58, 32, 99, 108, 111, 115, 101, 13, 10]⟩ : ByteArray) ++ (⟨#[13, 10]⟩ : ByteArray) = S (top r k)) := by show _ = _; rw [end_sum (close_sum HTT.out), top_ny HH.out GS.out HCL.out.symm]
          go_wp2_with fail
          go_ret
          exact ⟨ret_str E.out, BB.out⟩
      · have g1 : (st == 204) = false := by rw [beq_eq_false_iff_ne]; exact g
        have g2 : (st != 204) = true := by rw [bne_iff_ne]; exact g
        have GS : Hid (¬ r.status = 204) := by show ¬ _; rw [← HST.out]; exact g
        have DK := Lib.hid (fun u => digits_any u k (by omega))
        obtain ⟨dk, hdk⟩ : ∃ x, x = S (Lib.decDigits k) := ⟨_, rfl⟩
        have dz : dk.size ≤ 1048577 := by rw [hdk, S_size]; have := dec_len k; omega
        have v1 : ¬ 9223372036854775807 < t.size + 16 := by omega
        have v2 : ¬ 9223372036854775807 < t.size + 16 + dk.size := by omega
        have v3 : ¬ 9223372036854775807 < t.size + 16 + dk.size + 2 := by omega
        have v4 : ¬ 9223372036854775807 < t.size + 16 + dk.size + 2 + 2 := by omega
        have v5 : ¬ 9223372036854775807 < t.size + 16 + dk.size + 2 + 19 := by omega
        have v6 : ¬ 9223372036854775807 < t.size + 16 + dk.size + 2 + 19 + 2 := by omega
        have E0 := Lib.hid (len_sum HTT.out hdk)
        rw [← hdk] at DK
        clear g hdk
        cases cl
        · have E : Hid (t ++ (⟨#[67, 111, 110, 116, 101, 110, 116, 45, 76, 101, 110, 103, 116, 104, 58, 32]⟩ : ByteArray) ++ dk ++ ⟨#[13, 10]⟩ ++ (⟨#[13, 10]⟩ : ByteArray) = S (top r k)) := by show _ = _; rw [end_sum E0.out, top_yn HH.out GS.out HCL.out.symm]
          go_wp2_with fail
          refine (DK.out _).mono ?_
          rintro x w2 ⟨rfl, hb2⟩
          have B2 := Lib.hid (BB.out.trans (hb2.mono BB.out.size))
          have z4 : w2.cell? ⟨w.heap.size, 4, none⟩ = some (.bool false) := (hb2.cell (p := ⟨w.heap.size, 4, none⟩) (block_lt y4)).trans y4
          clear hb2 DK
          go_wp2_with fail
          go_ret
          exact ⟨ret_str E.out, B2.out⟩
        · have E : Hid (t ++ (⟨#[67, 111, 110, 116, 101, 110, 116, 45, 76, 101, 110, 103, 116, 104, 58, 32]⟩ : ByteArray) ++ dk ++ ⟨#[13, 10]⟩ ++ (⟨#[67, 111, 110, 110, 101, 99, 116, 105, 111, 110, 58, 32, 99, 108, 111, 115, 101, 13, 10]⟩ : ByteArray) ++ (⟨#[13, 10]⟩ : ByteArray) = S (top r k)) := by show _ = _; rw [end_sum (close_sum E0.out), top_yy HH.out GS.out HCL.out.symm]
          go_wp2_with fail
          refine (DK.out _).mono ?_
          rintro x w2 ⟨rfl, hb2⟩
          have B2 := Lib.hid (BB.out.trans (hb2.mono BB.out.size))
          have z4 : w2.cell? ⟨w.heap.size, 4, none⟩ = some (.bool true) := (hb2.cell (p := ⟨w.heap.size, 4, none⟩) (block_lt y4)).trans y4
          clear hb2 DK
          go_wp2_with fail
          go_ret
          exact ⟨ret_str E.out, B2.out⟩
end Go.Proofs.YtdojchamdcokiaaGreatDoor
