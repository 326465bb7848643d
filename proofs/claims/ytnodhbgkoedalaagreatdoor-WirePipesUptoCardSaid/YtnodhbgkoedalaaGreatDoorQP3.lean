/-
  wire: the reader's loop over a row of bytes.
-/
import Derived.Test.YtnodhbgkoedalaaGreatDoorQP2
namespace Go.Proofs.YtnodhbgkoedalaaGreatDoor
open Go.RowKit Reply

section
variable {w0 w : World} {Bn p : Nat} {ty : TypeId} {z : List Value} {s : Wire.St} {A : Option Addr} {c : Nat}
set_option maxRecDepth 100000 in
set_option maxHeartbeats 16000000 in
theorem run_b_any (h : RdS w0 Bn w p ty z s A c) (g off cp : Nat) (l : Reply.B) (hk : Bk w g off l) (hg : g < Bn) (hgp : g ≠ p) (hcp : l.length ≤ cp) (hl : l.length ≤ 134217728) (ok : Wire.Ok s) (ft : Wire.Fit s) {t : Nat} {c' : Int} {s' : Wire.St} (hr : Wire.Runs Wire.reader s l t c' s') (CL : ∀ s1 : Wire.St, Wire.Ok s1 → Wire.Fit s1 → s1.q.headers <+: s'.q.headers → ClosesC s1.q.headers) :
    Calls Tryz.prog 17 #[.pointer (some ⟨p, 0, none⟩), .slice (some ⟨g, off, none⟩) l.length cp] w fun e w' => e = .returned (.tuple #[.int .i64 (t : Int), .int .i64 c']) ∧ (∃ A' c2, RdS w0 Bn w' p ty z s' A' c2) ∧ Fr Bn p w w' := by
  have G0 : Hid (Going w0 Bn w p ty z l t c' s' 0 w s A c) := ⟨Nat.zero_le _, h, ok, ft, ⟨t, hr, Nat.zero_add _⟩, Fr.refl _ _ _⟩
  have HC := Lib.hid CL
  obtain ⟨n, hn⟩ : ∃ n, n = l.length := ⟨_, rfl⟩
  have HN := Lib.hid hn
  have HK := Lib.hid hk
  have HG := Lib.hid hg
  have HP := Lib.hid hgp
  have nz : n ≤ 134217728 := by omega
  have nc : n ≤ cp := by omega
  rw [← hn]
  clear h hl ok ft hr CL hn hk hg hgp hcp
  go_enter Tryz.func17, Tryz.ntmps17
  go_wp2_with fail
  go_loopw [6] (fun v wr => ∃ (k : Nat) (s1 : Wire.St) (A1 : Option Addr) (c1 : Nat), v = .int .i64 k ∧ Hid (Going w0 Bn w p ty z l t c' s' k wr s1 A1 c1)) (fun v wr => runM n v wr p)
  case atStart => exact ⟨0, s, A, c, rfl, G0⟩
  case round =>
    obtain ⟨k, s1, A1, c1, rfl, G⟩ := hrel
    have c0 : wr.cell? ⟨p, 0, none⟩ = some (.int .i64 (s1.step : Int)) := G.out.rd.cell 0
    have kn : k ≤ n := by rw [HN.out]; exact G.out.le
    obtain ⟨j, hj⟩ : ∃ j, j = s1.step := ⟨_, rfl⟩
    rw [← hj] at c0
    have j8 : j ≤ 8 := by rw [hj]; exact G.out.ok.step
    have HJ := Lib.hid hj
    clear hj
    obtain ⟨t1, ht1, htt⟩ := G.out.runs
    have HI := Lib.hid (Wire.runs_inv ht1)
    have PR := Lib.hid (Wire.runs_pre ht1)
    have HT := Lib.hid htt
    clear ht1 htt
    by_cases h8 : j = 8
    · subst h8
      have F : Hid (t = k ∧ c' = 0 ∧ s' = s1) := by
        show _ ∧ _ ∧ _
        rcases HI.out with ⟨_, a, b, d⟩ | ⟨a, _⟩ | ⟨a, _⟩ | ⟨a, _⟩
        · exact ⟨by have := HT.out; omega, b, d⟩
        · exact absurd HJ.out.symm a
        · exact absurd HJ.out.symm a
        · exact absurd HJ.out.symm a
      clear HI PR
      go_wp2_with fail
      go_ret2
      exact ⟨by rw [F.out.1, F.out.2.1]; rfl, ⟨A1, c1, by rw [F.out.2.2]; exact G.out.rd⟩, G.out.fr⟩
    · have j8' : ¬ s1.step = 8 := by rw [← HJ.out]; exact h8
      have f0 : ((j : Int) == 8) = false := by rw [beq_eq_false_iff_ne]; omega
      have f0' : ((j : Int) != 8) = true := by rw [bne_iff_ne]; omega
      have kz : (k : Int) ≤ (n : Int) := by omega
      have kz2 : (n : Int) ≤ (cp : Int) := by omega
      have kz3 : (k : Int) ≤ (cp : Int) := by omega
      obtain ⟨d, hd⟩ : ∃ d, d = l.drop k := ⟨_, rfl⟩
      have dl : d.length = n - k := by rw [hd, List.length_drop, HN.out]
      have WA := Lib.hid (fun u (q : RdS w0 Bn u p ty z s1 A1 c1) => wants_any q G.out.ok.step)
      obtain ⟨q, hq⟩ : ∃ q, q = Wire.size d (Wire.wants s1) := ⟨_, rfl⟩
      have q8 : q ≤ 8192 := by rw [hq]; exact Wire.size_small G.out.ok d
      obtain ⟨oo, ae0, dk0⟩ : ∃ oo, (if cp = k then (some ⟨g, off, none⟩ : Option Addr) else some ⟨g, off + k, none⟩) = some ⟨g, oo, none⟩ ∧ Bk wr g oo d := by
        have b := (HK.out.fr G.out.fr HG.out HP.out).drop k
        rw [← hd] at b
        by_cases e : cp = k
        · rw [if_pos e]
          exact ⟨off, rfl, b.lt, fun i hi => by omega⟩
        · rw [if_neg e]
          exact ⟨off + k, rfl, b⟩
      have AE := Lib.hid ae0
      have DK := Lib.hid dk0
      clear ae0 dk0
      have CU := Lib.hid (fun u (bk : Bk u g oo d) => cut_b_any u g oo (cp - k) d bk (by omega) (Wire.wants s1) (fun m hm => by
        have := Wire.size_small G.out.ok d
        rw [hm] at this
        have : m ≤ 8192 := this
        omega))
      rw [← hq, dl] at CU
      rw [← hd, ← hq] at HI
      obtain ⟨wi, hwi⟩ : ∃ x, x = szI (Wire.wants s1) := ⟨_, rfl⟩
      rw [← hwi] at WA CU
      have HD := Lib.hid hd
      have HQ := Lib.hid hq
      have GD := Lib.hid G.out.fr
      clear hd hq hwi
      by_cases hle : q ≤ n - k
      · have F1 : Hid ((if q ≤ n - k then S (d.take q) else S []) = S (d.take q)) := if_pos hle
        rw [F1.out, decide_eq_true hle] at CU
        obtain ⟨pc, hpc⟩ : ∃ x, x = d.take q := ⟨_, rfl⟩
        have pl : pc.length = q := by rw [hpc, List.length_take]; omega
        rw [← hpc] at CU HI
        have TK := Lib.hid (fun u (q : RdS w0 Bn u p ty z s1 A1 c1) => take_any q pc (by omega) G.out.ok j8' G.out.fit (HC.out s1 G.out.ok G.out.fit PR.out))
        have HI2 : Hid (((Wire.take s1 pc).1 ≠ 0 ∧ t1 = q ∧ c' = (Wire.take s1 pc).1 ∧ s' = (Wire.take s1 pc).2) ∨ ((Wire.take s1 pc).1 = 0 ∧ ∃ t2, t1 = q + t2 ∧ Wire.Runs Wire.reader (Wire.take s1 pc).2 (d.drop q) t2 c' s')) := by
          rcases HI.out with ⟨a, _⟩ | ⟨_, a, _⟩ | ⟨_, _, a⟩ | ⟨_, _, a⟩
          · exact absurd a j8'
          · omega
          · exact .inl a
          · exact .inr a
        have OK2 : Hid ((Wire.take s1 pc).1 = 0 → Wire.Ok (Wire.take s1 pc).2) := fun e => G.out.ok.take j8' (fun m hm => by rw [pl, HQ.out, hm]; rfl) (show Wire.take s1 pc = (0, (Wire.take s1 pc).2) by rw [← e])
        have FT2 : Hid (Wire.Fit (Wire.take s1 pc).2) := G.out.fit.take (by omega)
        have LL : Hid ((Wire.take s1 pc).1 = 0 → Wire.left (Wire.take s1 pc).2 (d.drop q) < Wire.left s1 d) := fun e => by
          have := Wire.left_less (s' := (Wire.take s1 pc).2) (l := d) G.out.ok j8' (by rw [← HQ.out, dl]; exact hle) (by rw [← HQ.out, ← hpc, ← e])
          rw [← HQ.out] at this
          exact this
        have SM := Lib.hid (stepM_is G.out.rd)
        have RR := Lib.hid G.out.rd
        obtain ⟨ps, hps⟩ : ∃ x, x = S pc := ⟨_, rfl⟩
        have psz : ps.size = q := by rw [hps, S_size, pl]
        obtain ⟨rc, hrc⟩ : ∃ x, x = (Wire.take s1 pc).1 := ⟨_, rfl⟩
        obtain ⟨s2, hs2⟩ : ∃ x, x = (Wire.take s1 pc).2 := ⟨_, rfl⟩
        have TK2 : Hid (∀ u, RdS w0 Bn u p ty z s1 A1 c1 → Calls Tryz.prog 21 #[.pointer (some ⟨p, 0, none⟩), .string ps] u fun e w' => e = .returned (.int .i64 rc) ∧ (∃ A c, RdS w0 Bn w' p ty z s2 A c) ∧ Fr Bn p u w') := fun u q => by rw [hps, hrc, hs2]; exact TK.out u q
        rw [← hrc, ← hs2] at HI2 OK2 LL
        rw [← hs2] at FT2
        rw [← hps] at CU
        have DLN : Hid (d.length = n - k) := dl
        clear hpc pl TK hps hrc hs2 HI PR F1
        go_upto_region 3 with fail
        refine wp_region_noPanic ?_
        refine wp_region_held_drew (S := fun _ => True) (by kernel_rfl) trivial (fun hHeld => ?_)
        refine take_ (i := 0) (v := ?_) 16 rfl rfl (by kernel_rfl) (by kernel_rfl) (by kernel_rfl) (fun _ _ _ h => h) (Or.inl ⟨by rfl, ?_⟩) (by assumption) ?_
        rotate_left
        · (intro wS hSw; (try dsimp only at hSw); go_simp; try with_reducible rfl)
        simp only [Act.put, List.setIfInBounds_toArray, List.set_cons_zero, List.set_cons_succ]
        refine take_ (i := 1) (v := ?_) 17 rfl rfl (by kernel_rfl) (by kernel_rfl) (by kernel_rfl) (fun _ _ _ h => h) (Or.inl ⟨by rfl, ?_⟩) (by assumption) ?_
        rotate_left
        · (intro wS hSw; (try dsimp only at hSw); go_simp; try with_reducible rfl)
        simp only [Act.put, List.setIfInBounds_toArray, List.set_cons_zero, List.set_cons_succ]
        refine take_ (i := 2) (v := ?_) 18 rfl rfl (by kernel_rfl) (by kernel_rfl) (by kernel_rfl) (fun _ _ _ h => h) (Or.inl ⟨by rfl, ?_⟩) (by assumption) ?_
        rotate_left
        · (intro wS hSw; (try dsimp only at hSw); go_simp; try with_reducible rfl)
        simp only [Act.put, List.setIfInBounds_toArray, List.set_cons_zero, List.set_cons_succ]
        refine take_ (i := 3) (v := ?_) 19 rfl rfl (by kernel_rfl) (by kernel_rfl) (by kernel_rfl) (fun _ _ _ h => h) (Or.inl ⟨by rfl, ?_⟩) (by assumption) ?_
        rotate_left
        · (intro wS hSw; (try dsimp only at hSw); go_simp; try with_reducible rfl)
        simp only [Act.put, List.setIfInBounds_toArray, List.set_cons_zero, List.set_cons_succ]
        rw [AE.out]
        refine one_ (i := 4) _ (by kernel_rfl) rfl (fun K hK => ?_)
        go_simp
        refine (WA.out _ (RR.out.under ((Below.refl _ _).drew))).mono ?_
        rintro e w5 ⟨rfl, rfl⟩
        dsimp only
        refine hK.out _ _ trivial (fun hHeld => ?_)
        clear hK K
        refine one_ (i := 5) _ (by kernel_rfl) rfl (fun K hK => ?_)
        go_simp
        refine (CU.out _ (DK.out.below ((Below.refl _ _).drew))).mono ?_
        rintro e w6 ⟨rfl, hb6⟩
        dsimp only
        have K6 : Below wr.heap.size wr w6 := ((Below.refl _ _).drew).trans hb6
        have R6 := Lib.hid (RR.out.under K6)
        have D6 := Lib.hid (GD.out.trans (Fr.of_below RR.out.sz K6))
        clear hb6 K6 CU WA
        refine hK.out _ _ trivial (fun hHeld => ?_)
        clear hK K
        refine take_ (i := 6) (v := ?_) 15 rfl rfl (by kernel_rfl) (by kernel_rfl) (by kernel_rfl) (fun _ _ _ h => h) (Or.inl ⟨by rfl, ?_⟩) (by assumption) ?_
        rotate_left
        · (intro wS hSw; (try dsimp only at hSw); go_simp; try with_reducible rfl)
        simp only [Act.put, List.setIfInBounds_toArray]
        refine take_ (i := 7) (v := ?_) 22 rfl rfl (by kernel_rfl) (by kernel_rfl) (by kernel_rfl) (fun _ _ _ h => h) (Or.inl ⟨by rfl, ?_⟩) (by assumption) ?_
        rotate_left
        · (intro wS hSw; (try dsimp only at hSw); go_simp; try with_reducible rfl)
        simp only [Act.put, List.setIfInBounds_toArray]
        refine take_ (i := 8) (v := ?_) 23 rfl rfl (by kernel_rfl) (by kernel_rfl) (by kernel_rfl) (fun _ _ _ h => h) (Or.inl ⟨by rfl, ?_⟩) (by assumption) ?_
        rotate_left
        · (intro wS hSw; (try dsimp only at hSw); go_simp; try with_reducible rfl)
        simp only [Act.put, List.setIfInBounds_toArray]
        refine take_ (i := 9) (v := ?_) 7 rfl rfl (by kernel_rfl) (by kernel_rfl) (by kernel_rfl) (fun _ _ _ h => h) (Or.inl ⟨by rfl, ?_⟩) (by assumption) ?_
        rotate_left
        · (intro wS hSw; (try dsimp only at hSw); go_simp; try with_reducible rfl)
        simp only [Act.put, List.setIfInBounds_toArray]
        refine take_ (i := 10) (v := ?_) 8 rfl rfl (by kernel_rfl) (by kernel_rfl) (by kernel_rfl) (fun _ _ _ h => h) (Or.inl ⟨by rfl, ?_⟩) (by assumption) ?_
        rotate_left
        · (intro wS hSw; (try dsimp only at hSw); go_simp; try with_reducible rfl)
        simp only [Act.put, List.setIfInBounds_toArray]
        refine wpAnyH_done (by kernel_rfl) ?_ _
        refine NoPanic.normal ?_
        go_wp2_with fail
        refine (TK2.out _ R6.out).mono ?_
        rintro e w7 ⟨rfl, ⟨A2, c2, r7⟩, d7⟩
        have R7 := Lib.hid r7
        have D7 := Lib.hid (D6.out.trans d7)
        clear r7 d7 TK2
        by_cases hz : rc = 0
        · have NX : Hid (Going w0 Bn w p ty z l t c' s' (k + q) w7 s2 A2 c2) := by
            refine ⟨by rw [← HN.out]; omega, R7.out, OK2.out hz, FT2.out, ?_, D7.out⟩
            rcases HI2.out with ⟨a, _⟩ | ⟨_, t2, a, b⟩
            · exact absurd hz a
            · refine ⟨t2, ?_, by have := HT.out; omega⟩
              rw [HD.out, List.drop_drop] at b
              exact b
          have MS : Hid (runM n (.int .i64 ((k + q : Nat) : Int)) w7 p < runM n (.int .i64 (k : Int)) wr p) := by
            have a := LL.out hz
            unfold Wire.left at a
            show _ < _
            unfold runM
            rw [SM.out, stepM_is R7.out]
            simp only [intOf, Int.toNat_natCast]
            rw [List.length_drop, DLN.out] at a
            omega
          subst hz
          clear HI2 OK2 LL
          go_wp2_with fail
          go_roundw
          case rel => exact ⟨k + q, s2, A2, c2, by go_num, NX⟩
          case measure => have := MS.out; simpa using this
        · have f5 : (rc == 0) = false := by rw [beq_eq_false_iff_ne]; exact hz
          have f5' : (rc != 0) = true := by rw [bne_iff_ne]; exact hz
          have F : Hid (t = k + q ∧ c' = rc ∧ s' = s2) := by
            show _ ∧ _ ∧ _
            rcases HI2.out with ⟨_, a, b, e⟩ | ⟨a, _⟩
            · exact ⟨by have := HT.out; omega, b, e⟩
            · exact absurd a hz
          clear HI2 OK2 LL hz
          go_wp2_with fail
          go_ret2
          exact ⟨by rw [F.out.1, F.out.2.1]; simp, ⟨A2, c2, by rw [F.out.2.2]; exact R7.out⟩, D7.out⟩
      · have F1 : Hid ((if q ≤ n - k then S (d.take q) else S []) = S []) := if_neg hle
        rw [F1.out, decide_eq_false hle] at CU
        have F : Hid (t = k ∧ c' = -1 ∧ s' = s1) := by
          show _ ∧ _ ∧ _
          rcases HI.out with ⟨a, _⟩ | ⟨_, _, a, b, e⟩ | ⟨_, a, _⟩ | ⟨_, a, _⟩
          · exact absurd a j8'
          · exact ⟨by have := HT.out; omega, b, e⟩
          · exact absurd (show q ≤ n - k by omega) hle
          · exact absurd (show q ≤ n - k by omega) hle
        have RR := Lib.hid G.out.rd
        clear HI PR F1
        go_upto_region 3 with fail
        refine wp_region_noPanic ?_
        refine wp_region_held_drew (S := fun _ => True) (by kernel_rfl) trivial (fun hHeld => ?_)
        refine take_ (i := 0) (v := ?_) 16 rfl rfl (by kernel_rfl) (by kernel_rfl) (by kernel_rfl) (fun _ _ _ h => h) (Or.inl ⟨by rfl, ?_⟩) (by assumption) ?_
        rotate_left
        · (intro wS hSw; (try dsimp only at hSw); go_simp; try with_reducible rfl)
        simp only [Act.put, List.setIfInBounds_toArray, List.set_cons_zero, List.set_cons_succ]
        refine take_ (i := 1) (v := ?_) 17 rfl rfl (by kernel_rfl) (by kernel_rfl) (by kernel_rfl) (fun _ _ _ h => h) (Or.inl ⟨by rfl, ?_⟩) (by assumption) ?_
        rotate_left
        · (intro wS hSw; (try dsimp only at hSw); go_simp; try with_reducible rfl)
        simp only [Act.put, List.setIfInBounds_toArray, List.set_cons_zero, List.set_cons_succ]
        refine take_ (i := 2) (v := ?_) 18 rfl rfl (by kernel_rfl) (by kernel_rfl) (by kernel_rfl) (fun _ _ _ h => h) (Or.inl ⟨by rfl, ?_⟩) (by assumption) ?_
        rotate_left
        · (intro wS hSw; (try dsimp only at hSw); go_simp; try with_reducible rfl)
        simp only [Act.put, List.setIfInBounds_toArray, List.set_cons_zero, List.set_cons_succ]
        refine take_ (i := 3) (v := ?_) 19 rfl rfl (by kernel_rfl) (by kernel_rfl) (by kernel_rfl) (fun _ _ _ h => h) (Or.inl ⟨by rfl, ?_⟩) (by assumption) ?_
        rotate_left
        · (intro wS hSw; (try dsimp only at hSw); go_simp; try with_reducible rfl)
        simp only [Act.put, List.setIfInBounds_toArray, List.set_cons_zero, List.set_cons_succ]
        rw [AE.out]
        refine one_ (i := 4) _ (by kernel_rfl) rfl (fun K hK => ?_)
        go_simp
        refine (WA.out _ (RR.out.under ((Below.refl _ _).drew))).mono ?_
        rintro e w5 ⟨rfl, rfl⟩
        dsimp only
        refine hK.out _ _ trivial (fun hHeld => ?_)
        clear hK K
        refine one_ (i := 5) _ (by kernel_rfl) rfl (fun K hK => ?_)
        go_simp
        refine (CU.out _ (DK.out.below ((Below.refl _ _).drew))).mono ?_
        rintro e w6 ⟨rfl, hb6⟩
        dsimp only
        have K6 : Below wr.heap.size wr w6 := ((Below.refl _ _).drew).trans hb6
        have R6 := Lib.hid (RR.out.under K6)
        have D6 := Lib.hid (GD.out.trans (Fr.of_below RR.out.sz K6))
        clear hb6 K6 CU WA
        refine hK.out _ _ trivial (fun hHeld => ?_)
        clear hK K
        refine take_ (i := 6) (v := ?_) 15 rfl rfl (by kernel_rfl) (by kernel_rfl) (by kernel_rfl) (fun _ _ _ h => h) (Or.inl ⟨by rfl, ?_⟩) (by assumption) ?_
        rotate_left
        · (intro wS hSw; (try dsimp only at hSw); go_simp; try with_reducible rfl)
        simp only [Act.put, List.setIfInBounds_toArray]
        refine take_ (i := 7) (v := ?_) 22 rfl rfl (by kernel_rfl) (by kernel_rfl) (by kernel_rfl) (fun _ _ _ h => h) (Or.inl ⟨by rfl, ?_⟩) (by assumption) ?_
        rotate_left
        · (intro wS hSw; (try dsimp only at hSw); go_simp; try with_reducible rfl)
        simp only [Act.put, List.setIfInBounds_toArray]
        refine take_ (i := 8) (v := ?_) 23 rfl rfl (by kernel_rfl) (by kernel_rfl) (by kernel_rfl) (fun _ _ _ h => h) (Or.inl ⟨by rfl, ?_⟩) (by assumption) ?_
        rotate_left
        · (intro wS hSw; (try dsimp only at hSw); go_simp; try with_reducible rfl)
        simp only [Act.put, List.setIfInBounds_toArray]
        refine take_ (i := 9) (v := ?_) 7 rfl rfl (by kernel_rfl) (by kernel_rfl) (by kernel_rfl) (fun _ _ _ h => h) (Or.inl ⟨by rfl, ?_⟩) (by assumption) ?_
        rotate_left
        · (intro wS hSw; (try dsimp only at hSw); go_simp; try with_reducible rfl)
        simp only [Act.put, List.setIfInBounds_toArray]
        refine take_ (i := 10) (v := ?_) 8 rfl rfl (by kernel_rfl) (by kernel_rfl) (by kernel_rfl) (fun _ _ _ h => h) (Or.inl ⟨by rfl, ?_⟩) (by assumption) ?_
        rotate_left
        · (intro wS hSw; (try dsimp only at hSw); go_simp; try with_reducible rfl)
        simp only [Act.put, List.setIfInBounds_toArray]
        refine wpAnyH_done (by kernel_rfl) ?_ _
        refine NoPanic.normal ?_
        go_wp2_with fail
        go_ret2
        exact ⟨by rw [F.out.1, F.out.2.1]; rfl, ⟨A1, c1, by rw [F.out.2.2]; exact R6.out⟩, D6.out⟩
end
end Go.Proofs.YtnodhbgkoedalaaGreatDoor
