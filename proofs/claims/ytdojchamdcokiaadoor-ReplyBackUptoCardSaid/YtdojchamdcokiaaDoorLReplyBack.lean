/-
  ReplyBack: what is written is read as it was, whatever stands behind; a beginning of it isn't read (where all that comes in is of bulk at most 1048576).
-/
import Derived.Test.YtdojchamdcokiaaDoorR24
namespace Go.Proofs.YtdojchamdcokiaaDoor.replyBack
open Go.ChangeShapes Go.WideShapes Go.ChangeAt Go.RowKit Reply

/-- What is read of what is written: the response, without its body where that isn't sent. -/
def wantR (r : Rs) : Rs := { r with body := if r.head then [] else r.body }
theorem same_want (r : Rs) : sameR (wantR r) (wantR r) = true := by unfold sameR; simp
set_option maxRecDepth 100000 in
set_option maxHeartbeats 8000000 in
theorem walk (w : World) (r : Rs) (A : Option Addr) (c : Nat) (b : B) (cu : Nat) (hf : RFit r) (hA : HAt w A r.headers) (hb : b.length ≤ 1048576) (hcu : cu < 65536) (E : Env w) :
    Calls Tryd.prog 3 #[rV r A c, .string (S b), .int .u16 (cu : Int)] w fun e w' => e = .returned (.bool true) ∧ Below w.heap.size w w' := by
  have HE := Lib.hid E
  have HA := Lib.hid hA
  have HF := Lib.hid hf
  have FX := Lib.hid (fun u (k : Env u) => fixed_any u k)
  have WF := Lib.hid (fun u (k : Env u) (h : HAt u A r.headers) => fwrite_any u k r A c hf h)
  unfold wroteV at WF
  unfold rV at WF ⊢
  obtain ⟨n, hn⟩ : ∃ n, n = r.headers.length := ⟨_, rfl⟩
  obtain ⟨bs, hbs⟩ : ∃ x, x = S r.body := ⟨_, rfl⟩
  obtain ⟨st, hst⟩ : ∃ x, x = r.status := ⟨_, rfl⟩
  obtain ⟨hd, hhd⟩ : ∃ x, x = r.head := ⟨_, rfl⟩
  obtain ⟨cl, hcl⟩ : ∃ x, x = r.close := ⟨_, rfl⟩
  rw [← hn, ← hbs, ← hst, ← hhd, ← hcl] at WF ⊢
  have HN := Lib.hid hn
  have HBS := Lib.hid hbs
  have HST := Lib.hid hst
  have HHD := Lib.hid hhd
  have HCL := Lib.hid hcl
  obtain ⟨W0, hW0⟩ : ∃ x, x = w.alloc (.cells #[.int .i64 st, .slice A n c, .string bs, .bool hd, .bool cl] 24) := ⟨_, rfl⟩
  have HW0 := Lib.hid hW0
  have HLD : Hid (Held W0 w.heap.size 24 #[.int .i64 st, .slice A n c, .string bs, .bool hd, .bool cl]) := by show Held _ _ _ _; rw [hW0]; exact Held.new _ _ _ rfl
  have B0 : Hid (Below w.heap.size w W0) := by show Below _ _ _; rw [hW0]; exact (Below.refl _ _).alloc (Nat.le_refl _) _
  obtain ⟨bb, hbb⟩ : ∃ x, x = S b := ⟨_, rfl⟩
  rw [← hbb]
  have HBB := Lib.hid hbb
  have bbz : bb.size ≤ 1048576 := by rw [hbb, S_size]; exact hb
  clear hn hbs hst hhd hcl hW0 hf hA E hbb
  cases g : good r
  · rw [g] at WF
    simp only [Bool.false_eq_true, if_false] at WF
    rw [show S ([] : B) = ⟨#[]⟩ from rfl] at WF
    clear g
    go_enter Tryd.func3, Tryd.ntmps3
    go_wp2_with fail
    rw [← HW0.out]
    refine (FX.out _ (HE.out.below B0.out)).mono ?_
    rintro e w1 ⟨rfl, hb1⟩
    have B1 := Lib.hid (B0.out.trans (hb1.mono B0.out.size))
    have L1 := Lib.hid (HLD.out.below hb1 HLD.out.lt)
    have c0 := L1.out.cell 0
    have c1 := L1.out.cell 1
    have c2 := L1.out.cell 2
    have c3 := L1.out.cell 3
    have c4 := L1.out.cell 4
    clear hb1 FX
    go_wp2_with fail
    refine (WF.out _ (HE.out.below B1.out) (HA.out.below B1.out)).mono ?_
    rintro e w2 ⟨rfl, hb2⟩
    have B2 := Lib.hid (B1.out.trans (hb2.mono B1.out.size))
    clear hb2 WF
    go_wp2_with fail
    go_ret
    exact ⟨rfl, B2.out⟩
  · have G := Lib.hid g
    have GP := Lib.hid (good_parts g)
    rw [g] at WF
    simp only [if_true] at WF
    have SL : Hid ((form r).length ≤ 134283264) := by
      show _ ≤ _
      have := top_len r r.body.length HF.out GP.out.1 GP.out.2.1 HF.out.body
      have := GP.out.2.2.1
      unfold form
      rw [List.length_append]
      split
      · simp; omega
      · omega
    have FP : Hid (0 < (form r).length) := form_pos r
    obtain ⟨s, hs⟩ : ∃ x, x = S (form r) := ⟨_, rfl⟩
    rw [← hs] at WF
    have HS := Lib.hid hs
    have ssz : s.size = (form r).length := by rw [hs, S_size]
    have HSZ := Lib.hid ssz
    have sb : s.size ≤ 134283264 := by have := SL.out; omega
    have sp : 0 < s.size := by have := FP.out; omega
    have q1 : ¬ 9223372036854775807 < s.size + bb.size := by omega
    have R1 : Hid (∀ u, Env u → Calls Tryd.prog 7 #[.string (s ++ bb), .bool hd] u fun e w' => ReadE (form r ++ b) hd e w' ∧ Below u.heap.size u w') := fun u k => by
      rw [HS.out, HBB.out, S_append]
      exact fread_any u k (form r ++ b) hd (by rw [List.length_append]; have := SL.out; omega)
    have FR : Hid (Reply.read (form r ++ b) hd = some (wantR r, b)) := by show _ = _; rw [HHD.out]; exact read_form r G.out b
    obtain ⟨k, hk⟩ : ∃ k, k = cu % s.size := ⟨_, rfl⟩
    have hkl : k < s.size := by rw [hk]; exact Nat.mod_lt _ sp
    have km : (cu : Int) % (s.size : Int) = (k : Int) := by rw [hk]; exact (Int.natCast_emod _ _).symm
    have km2 : Int.tmod (cu : Int) (s.size : Int) = (k : Int) := by rw [Int.tmod_eq_emod_of_nonneg (by omega)]; exact km
    have R2 : Hid (∀ u, Env u → Calls Tryd.prog 7 #[.string (s.extract 0 k), .bool hd] u fun e w' => ReadE ((form r).take k) hd e w' ∧ Below u.heap.size u w') := fun u q => by
      rw [HS.out, S_extract, List.drop_zero, Nat.sub_zero]
      exact fread_any u q ((form r).take k) hd (by rw [List.length_take]; have := SL.out; omega)
    have FN : Hid (Reply.read ((form r).take k) hd = none) := by show _ = _; rw [HHD.out]; exact read_cut r G.out k (by rw [← HSZ.out]; exact hkl)
    clear g hs hk ssz
    go_enter Tryd.func3, Tryd.ntmps3
    go_wp2_with fail
    rw [← HW0.out]
    refine (FX.out _ (HE.out.below B0.out)).mono ?_
    rintro e w1 ⟨rfl, hb1⟩
    have B1 := Lib.hid (B0.out.trans (hb1.mono B0.out.size))
    have L1 := Lib.hid (HLD.out.below hb1 HLD.out.lt)
    have c0 := L1.out.cell 0
    have c1 := L1.out.cell 1
    have c2 := L1.out.cell 2
    have c3 := L1.out.cell 3
    have c4 := L1.out.cell 4
    clear hb1 FX
    go_wp2_with fail
    refine (WF.out _ (HE.out.below B1.out) (HA.out.below B1.out)).mono ?_
    rintro e w2 ⟨rfl, hb2⟩
    have B2 := Lib.hid (B1.out.trans (hb2.mono B1.out.size))
    have L2 := Lib.hid (L1.out.below hb2 L1.out.lt)
    clear hb2 WF c0 c1 c2 c3 c4
    have c0 := L2.out.cell 0
    have c1 := L2.out.cell 1
    have c2 := L2.out.cell 2
    have c3 := L2.out.cell 3
    have c4 := L2.out.cell 4
    have ltq : w.heap.size < w2.heap.size := L2.out.lt
    cases hd
    · skip
      have WB : Hid (bs = S (wantR r).body) := by show _ = _; unfold wantR; simp only []; rw [← HHD.out]; rw [HBS.out]; simp
      obtain ⟨W3, hW3⟩ : ∃ x, x = w2.alloc (.cells #[.int .i64 st, .slice A n c, .string bs, .bool false, .bool cl] 24) := ⟨_, rfl⟩
      have HW3 := Lib.hid hW3
      have H3 : Hid (Held W3 w2.heap.size 24 #[.int .i64 st, .slice A n c, .string bs, .bool false, .bool cl]) := by show Held _ _ _ _; rw [hW3]; exact Held.new _ _ _ rfl
      have B3 : Hid (Below w.heap.size w W3) := by show Below _ _ _; rw [hW3]; exact B2.out.alloc B2.out.size _
      have K3 : Hid (Held W3 w.heap.size 24 #[.int .i64 st, .slice A n c, .string bs, .bool false, .bool cl]) := by show Held _ _ _ _; rw [hW3]; exact L2.out.alloc _
      clear hW3
      go_wp2_with fail
      rw [← HW3.out]
      refine (R1.out _ (HE.out.below B3.out)).mono ?_
      rintro e w4 ⟨⟨r4, A4, c4', n4, ok4, rfl, hA4, hy4, hn4⟩, hb4⟩
      have B4 := Lib.hid (B3.out.trans (hb4.mono B3.out.size))
      have H4 := Lib.hid (H3.out.below hb4 H3.out.lt)
      have K4 := Lib.hid (K3.out.below hb4 K3.out.lt)
      cases ok4
      · have := (hn4 rfl).1
        rw [FR.out] at this
        cases this
      obtain ⟨z4, hz4, hl4⟩ := hy4 rfl
      rw [FR.out] at hz4
      simp only [Option.some.injEq, Prod.mk.injEq] at hz4
      obtain ⟨rfl, rfl⟩ := hz4
      have N4 : Hid (n4 = s.size) := by
        show _ = _
        rw [List.length_append] at hl4
        have := HSZ.out
        omega
      have f4 : ((n4 : Int) == (s.size : Int)) = true := by rw [N4.out]; simp
      have RV4 : Hid (rV (wantR r) A4 c4' = .agg #[.int .i64 st, .slice A4 n c4', .string bs, .bool false, .bool cl]) := by
        show _ = _
        unfold rV
        rw [← WB.out]
        unfold wantR
        simp only []
        rw [← HN.out, ← HST.out, ← HHD.out, ← HCL.out]
      have RVW : Hid (rV (wantR r) A c = .agg #[.int .i64 st, .slice A n c, .string bs, .bool false, .bool cl]) := by
        show _ = _
        unfold rV
        rw [← WB.out]
        unfold wantR
        simp only []
        rw [← HN.out, ← HST.out, ← HHD.out, ← HCL.out]
      rw [RV4.out]
      have HA4 := Lib.hid hA4
      obtain ⟨W5, hW5⟩ : ∃ x, x = w4.alloc (.cells #[.int .i64 st, .slice A4 n c4', .string bs, .bool false, .bool cl] 24) := ⟨_, rfl⟩
      have HW5 := Lib.hid hW5
      have a5 : Below w4.heap.size w4 W5 := by rw [hW5]; exact (Below.refl _ _).alloc (Nat.le_refl _) _
      have H5 := Lib.hid (H4.out.below a5 H4.out.lt)
      have K5 := Lib.hid (K4.out.below a5 K4.out.lt)
      have B5 := Lib.hid (B4.out.trans (a5.mono B4.out.size))
      have HA5 := Lib.hid (HA4.out.below a5)
      have A5 := Lib.hid a5
      have J5 : Hid (Held W5 w4.heap.size 24 #[.int .i64 st, .slice A4 n c4', .string bs, .bool false, .bool cl]) := by show Held _ _ _ _; rw [hW5]; exact Held.new _ _ _ rfl
      clear hb4 hA4 hy4 hn4 hl4 hW5 a5 R1
      have d3 := K5.out.cell 3
      have knn : k ≤ s.size := by omega
      have wc : IntKind.i64.wrap (cu : Int) = (cu : Int) := by rw [IntKind.wrap_i64]; omega
      have hse : ¬ s = ByteArray.empty := by
        intro h
        rw [h] at sp
        exact absurd sp (by decide)
      have kzz : (k : Int) ≤ (s.size : Int) := by omega
      go_upto_region 10 with fail
      rw [← HW5.out]
      refine wp_region_noPanic ?_
      refine wp_region_held_drew (S := fun w' => w'.cell? ⟨w.heap.size, 3, none⟩ = some (.bool false)) (by kernel_rfl) d3 (fun hHeld => ?_)
      refine take_ (i := 0) (v := ?_) 46 rfl rfl (by kernel_rfl) (by kernel_rfl) (by kernel_rfl) (fun _ _ _ h => h) (Or.inl ⟨by rfl, ?_⟩) (by assumption) ?_
      rotate_left
      · (intro wS hSw; (try dsimp only at hSw); go_simp; try with_reducible rfl)
      simp only [Act.put, List.setIfInBounds_toArray, List.set_cons_zero, List.set_cons_succ]
      refine take_ (i := 1) (v := ?_) 47 rfl rfl (by kernel_rfl) (by kernel_rfl) (by kernel_rfl) (fun _ _ _ h => h) (Or.inl ⟨by rfl, ?_⟩) (by assumption) ?_
      rotate_left
      · (intro wS hSw; (try dsimp only at hSw); go_simp; try with_reducible rfl)
      simp only [Act.put, List.setIfInBounds_toArray, List.set_cons_zero, List.set_cons_succ]
      refine take_ (i := 2) (v := ?_) 48 rfl rfl (by kernel_rfl) (by kernel_rfl) (by kernel_rfl) (fun _ _ _ h => h) (Or.inl ⟨by rfl, ?_⟩) (by assumption) ?_
      rotate_left
      · (intro wS hSw; (try dsimp only at hSw); go_simp; try with_reducible rfl)
      simp only [Act.put, List.setIfInBounds_toArray, List.set_cons_zero, List.set_cons_succ]
      refine take_ (i := 3) (v := ?_) 49 rfl rfl (by kernel_rfl) (by kernel_rfl) (by kernel_rfl) (fun _ _ _ h => h) (Or.inl ⟨by rfl, ?_⟩) (by assumption) ?_
      rotate_left
      · (intro wS hSw; (try dsimp only at hSw); go_simp; try with_reducible rfl)
      simp only [Act.put, List.setIfInBounds_toArray, List.set_cons_zero, List.set_cons_succ]
      refine take_ (i := 4) (v := ?_) 50 rfl rfl (by kernel_rfl) (by kernel_rfl) (by kernel_rfl) (fun _ _ _ h => h) (Or.inl ⟨by rfl, ?_⟩) (by assumption) ?_
      rotate_left
      · (intro wS hSw; (try dsimp only at hSw); go_simp; try with_reducible rfl)
      simp only [Act.put, List.setIfInBounds_toArray, List.set_cons_zero, List.set_cons_succ]
      refine take_ (i := 5) (v := ?_) 51 rfl rfl (by kernel_rfl) (by kernel_rfl) (by kernel_rfl) (fun _ _ _ h => h) (Or.inl ⟨by rfl, ?_⟩) (by assumption) ?_
      rotate_left
      · (intro wS hSw; (try dsimp only at hSw); go_simp; try with_reducible rfl)
      simp only [Act.put, List.setIfInBounds_toArray, List.set_cons_zero, List.set_cons_succ]
      refine take_ (i := 6) (v := ?_) 52 rfl rfl (by kernel_rfl) (by kernel_rfl) (by kernel_rfl) (fun _ _ _ h => h) (Or.inl ⟨by rfl, ?_⟩) (by assumption) ?_
      rotate_left
      · (intro wS hSw; (try dsimp only at hSw); go_simp; try with_reducible rfl)
      simp only [Act.put, List.setIfInBounds_toArray, List.set_cons_zero, List.set_cons_succ]
      refine take_ (i := 7) (v := ?_) 53 rfl rfl (by kernel_rfl) (by kernel_rfl) (by kernel_rfl) (fun _ _ _ h => h) (Or.inl ⟨by rfl, ?_⟩) (by assumption) ?_
      rotate_left
      · (intro wS hSw; (try dsimp only at hSw); go_simp; try with_reducible rfl)
      simp only [Act.put, List.setIfInBounds_toArray, List.set_cons_zero, List.set_cons_succ]
      refine take_ (i := 8) (v := ?_) 54 rfl rfl (by kernel_rfl) (by kernel_rfl) (by kernel_rfl) (fun _ _ _ h => h) (Or.inl ⟨by rfl, ?_⟩) (by assumption) ?_
      rotate_left
      · (intro wS hSw; (try dsimp only at hSw); go_simp; try with_reducible rfl)
      simp only [Act.put, List.setIfInBounds_toArray, List.set_cons_zero, List.set_cons_succ]
      refine two_ (i := 9) (j := 14) _ _ (by kernel_rfl) rfl rfl (fun K hK => ?_) (fun K hK => ?_)
      · skip
        go_simp
        refine (R2.out _ (HE.out.below B5.out.drew)).mono ?_
        rintro x w6 ⟨⟨r6, A6, c6, n6, ok6, rfl, hA6, hy6, hn6⟩, hb6⟩
        dsimp only
        cases ok6
        rotate_left
        · exfalso
          obtain ⟨z6, hz6, _⟩ := hy6 rfl
          rw [FN.out] at hz6
          cases hz6
        obtain ⟨_, rfl, rfl, rfl, rfl⟩ := hn6 rfl
        have e6 : rV zeroR none 0 = .agg #[.int .i64 0, .slice none 0 0, .string ⟨#[]⟩, .bool false, .bool false] := rfl
        rw [e6]
        have b6 : Below W5.heap.size W5 w6 := ((Below.refl W5.heap.size W5).drew).trans hb6
        have H6 := Lib.hid (H5.out.below b6 H5.out.lt)
        have K6 := Lib.hid (K5.out.below b6 K5.out.lt)
        have J6 := Lib.hid (J5.out.below b6 J5.out.lt)
        have B6 := Lib.hid (B5.out.trans (b6.mono B5.out.size))
        have HA6 := Lib.hid (HA5.out.below b6)
        clear hb6 hA6 hy6 hn6 e6 b6 R2
        refine hK.out _ _ (K6.out.cell 3) (fun hHeld => ?_)
        clear hK K
        refine take_ (i := 10) (v := ?_) 45 rfl rfl (by kernel_rfl) (by kernel_rfl) (by kernel_rfl) (fun _ _ _ h => h) (Or.inl ⟨by rfl, ?_⟩) (by assumption) ?_
        rotate_left
        · (intro wS hSw; (try dsimp only at hSw); go_simp; try with_reducible rfl)
        simp only [Act.put, List.setIfInBounds_toArray]
        refine take_ (i := 11) (v := ?_) 56 rfl rfl (by kernel_rfl) (by kernel_rfl) (by kernel_rfl) (fun _ _ _ h => h) (Or.inl ⟨by rfl, ?_⟩) (by assumption) ?_
        rotate_left
        · (intro wS hSw; (try dsimp only at hSw); go_simp; try with_reducible rfl)
        simp only [Act.put, List.setIfInBounds_toArray]
        refine take_ (i := 12) (v := ?_) 57 rfl rfl (by kernel_rfl) (by kernel_rfl) (by kernel_rfl) (fun _ _ _ h => h) (Or.inl ⟨by rfl, ?_⟩) (by assumption) ?_
        rotate_left
        · (intro wS hSw; (try dsimp only at hSw); go_simp; try with_reducible rfl)
        simp only [Act.put, List.setIfInBounds_toArray]
        refine take_ (i := 13) (v := ?_) 58 rfl rfl (by kernel_rfl) (by kernel_rfl) (by kernel_rfl) (fun _ _ _ h => h) (Or.inl ⟨by rfl, ?_⟩) (by assumption) ?_
        rotate_left
        · (intro wS hSw; (try dsimp only at hSw); go_simp; try with_reducible rfl)
        simp only [Act.put, List.setIfInBounds_toArray]
        refine one_ (i := 14) _ (by kernel_rfl) rfl (fun K hK => ?_)
        go_simp
        refine hK.out _ _ ((K6.out.alloc _).cell 3) (fun hHeld => ?_)
        clear hK K
        refine one_ (i := 15) _ (by kernel_rfl) rfl (fun K hK => ?_)
        go_simp
        refine hK.out _ _ ((K6.out.alloc _).cell 3) (fun hHeld => ?_)
        clear hK K
        refine take_ (i := 16) (v := ?_) 14 rfl rfl (by kernel_rfl) (by kernel_rfl) (by kernel_rfl) (fun _ _ _ h => h) (Or.inl ⟨by rfl, ?_⟩) (by assumption) ?_
        rotate_left
        · (intro wS hSw; (try dsimp only at hSw); go_simp; try with_reducible rfl)
        simp only [Act.put, List.setIfInBounds_toArray]
        refine take_ (i := 17) (v := ?_) 15 rfl rfl (by kernel_rfl) (by kernel_rfl) (by kernel_rfl) (fun _ _ _ h => h) (Or.inl ⟨by rfl, ?_⟩) (by assumption) ?_
        rotate_left
        · (intro wS hSw; (try dsimp only at hSw); go_simp; try with_reducible rfl)
        simp only [Act.put, List.setIfInBounds_toArray]
        refine wpAnyH_done (by kernel_rfl) ?_ _
        refine NoPanic.normal ?_
        obtain ⟨W7, hW7⟩ : ∃ x, x = w6.alloc (.cells #[.int .i64 0, .slice none 0 0, .string ⟨#[]⟩, .bool false, .bool false] 24) := ⟨_, rfl⟩
        have a7 : Below w6.heap.size w6 W7 := by rw [hW7]; exact (Below.refl _ _).alloc (Nat.le_refl _) _
        have H7 := Lib.hid (H6.out.below a7 H6.out.lt)
        have J7 := Lib.hid (J6.out.below a7 J6.out.lt)
        have B7 := Lib.hid (B6.out.trans (a7.mono B6.out.size))
        have HA7 := Lib.hid (HA6.out.below a7)
        rw [← hW7]
        clear hW7 a7 d3
        have SM : Hid (Calls Tryd.prog 8 #[.agg #[.int .i64 st, .slice A4 n c4', .string bs, .bool false, .bool cl], .agg #[.int .i64 st, .slice A n c, .string bs, .bool false, .bool cl]] W7 fun e w' => e = .returned (.bool true) ∧ Below W7.heap.size W7 w') := by
          rw [← RV4.out, ← RVW.out]
          refine (same_any W7 (wantR r) (wantR r) A4 A c4' c HA7.out (HA.out.below B7.out) HF.out.n).mono ?_
          rintro e w' ⟨rfl, hb⟩
          exact ⟨by rw [same_want], hb⟩
        have x0 := H7.out.cell 0
        have x1 := H7.out.cell 1
        have x2 := H7.out.cell 2
        have x3 := H7.out.cell 3
        have x4 := H7.out.cell 4
        have y0 := J7.out.cell 0
        have y1 := J7.out.cell 1
        have y2 := J7.out.cell 2
        have y3 := J7.out.cell 3
        have y4 := J7.out.cell 4
        go_wp2_with fail
        refine SM.out.mono ?_
        rintro e w8 ⟨rfl, hb8⟩
        have B8 := Lib.hid (B7.out.trans (hb8.mono B7.out.size))
        clear hb8 SM
        go_wp2_with fail
        go_ret
        exact ⟨rfl, B8.out⟩
      · skip
        go_simp
        obtain ⟨Wa, hWa⟩ : ∃ x, x = W5.alloc (.cells #[.int .i64 0, .slice none 0 0, .string ⟨#[]⟩, .bool false, .bool false] 24) := ⟨_, rfl⟩
        have HWa := Lib.hid hWa
        have aa : Below W5.heap.size W5 Wa := by rw [hWa]; exact (Below.refl _ _).alloc (Nat.le_refl _) _
        have Ha := Lib.hid (H5.out.below aa H5.out.lt)
        have Ka := Lib.hid (K5.out.below aa K5.out.lt)
        have Ja := Lib.hid (J5.out.below aa J5.out.lt)
        have Ba := Lib.hid (B5.out.trans (aa.mono B5.out.size))
        obtain ⟨pa, hpa⟩ : ∃ x, x = W5.heap.size := ⟨_, rfl⟩
        have Na : Hid (Held Wa pa 24 #[.int .i64 0, .slice none 0 0, .string ⟨#[]⟩, .bool false, .bool false]) := by show Held _ _ _ _; rw [hWa, hpa]; exact Held.new _ _ _ rfl
        have LH : Hid (w2.heap.size < pa ∧ w4.heap.size < pa) := by show _ ∧ _; rw [hpa]; exact ⟨H5.out.lt, J5.out.lt⟩
        have S4 : Hid (Below w4.heap.size w4 Wa) := (A5.out).trans (aa.mono A5.out.size)
        rw [← hWa, ← hpa]
        clear hWa aa hpa
        refine hK.out _ _ (Ka.out.cell 3) (fun hHeld => ?_)
        clear hK K
        refine one_ (i := 9) _ (by kernel_rfl) rfl (fun K hK => ?_)
        go_simp
        refine (R2.out _ (HE.out.below Ba.out.drew)).mono ?_
        rintro x w6 ⟨⟨r6, A6, c6, n6, ok6, rfl, hA6, hy6, hn6⟩, hb6⟩
        dsimp only
        cases ok6
        rotate_left
        · exfalso
          obtain ⟨z6, hz6, _⟩ := hy6 rfl
          rw [FN.out] at hz6
          cases hz6
        obtain ⟨_, rfl, rfl, rfl, rfl⟩ := hn6 rfl
        have e6 : rV zeroR none 0 = .agg #[.int .i64 0, .slice none 0 0, .string ⟨#[]⟩, .bool false, .bool false] := rfl
        rw [e6]
        have b6 : Below Wa.heap.size Wa w6 := ((Below.refl Wa.heap.size Wa).drew).trans hb6
        have H6 := Lib.hid (Ha.out.below b6 Ha.out.lt)
        have K6 := Lib.hid (Ka.out.below b6 Ka.out.lt)
        have J6 := Lib.hid (Ja.out.below b6 Ja.out.lt)
        have N6 := Lib.hid (Na.out.below b6 Na.out.lt)
        have B6 := Lib.hid (Ba.out.trans (b6.mono Ba.out.size))
        have S6 := Lib.hid (S4.out.trans (b6.mono S4.out.size))
        clear hb6 hA6 hy6 hn6 e6 b6 R2
        refine hK.out _ _ (K6.out.cell 3) (fun hHeld => ?_)
        clear hK K
        refine take_ (i := 10) (v := ?_) 45 rfl rfl (by kernel_rfl) (by kernel_rfl) (by kernel_rfl) (fun _ _ _ h => h) (Or.inl ⟨by rfl, ?_⟩) (by assumption) ?_
        rotate_left
        · (intro wS hSw; (try dsimp only at hSw); go_simp; try with_reducible rfl)
        simp only [Act.put, List.setIfInBounds_toArray]
        refine take_ (i := 11) (v := ?_) 56 rfl rfl (by kernel_rfl) (by kernel_rfl) (by kernel_rfl) (fun _ _ _ h => h) (Or.inl ⟨by rfl, ?_⟩) (by assumption) ?_
        rotate_left
        · (intro wS hSw; (try dsimp only at hSw); go_simp; try with_reducible rfl)
        simp only [Act.put, List.setIfInBounds_toArray]
        refine take_ (i := 12) (v := ?_) 57 rfl rfl (by kernel_rfl) (by kernel_rfl) (by kernel_rfl) (fun _ _ _ h => h) (Or.inl ⟨by rfl, ?_⟩) (by assumption) ?_
        rotate_left
        · (intro wS hSw; (try dsimp only at hSw); go_simp; try with_reducible rfl)
        simp only [Act.put, List.setIfInBounds_toArray]
        refine take_ (i := 13) (v := ?_) 58 rfl rfl (by kernel_rfl) (by kernel_rfl) (by kernel_rfl) (fun _ _ _ h => h) (Or.inl ⟨by rfl, ?_⟩) (by assumption) ?_
        rotate_left
        · (intro wS hSw; (try dsimp only at hSw); go_simp; try with_reducible rfl)
        simp only [Act.put, List.setIfInBounds_toArray]
        obtain ⟨W7, hW7⟩ : ∃ x, x = put5 w6 pa (.int .i64 0) (.slice none 0 0) (.string ⟨#[]⟩) (.bool false) (.bool false) := ⟨_, rfl⟩
        have o7 : Only [pa] w6 W7 := by rw [hW7]; exact put5_only _ _ _ _ _ _ _
        have H7 := Lib.hid (H6.out.only o7 (by have := LH.out.1; simp; omega))
        have K7 := Lib.hid (K6.out.only o7 (by have := LH.out.1; have := L2.out.lt; simp; omega))
        have J7 := Lib.hid (J6.out.only o7 (by have := LH.out.2; simp; omega))
        have S7 := Lib.hid (S6.out.trans (o7.below S6.out.size (fun x hx => by rw [List.mem_singleton.1 hx]; exact Nat.le_of_lt LH.out.2)))
        have B7 : Hid (Below w.heap.size w W7) := B4.out.trans (S7.out.mono B4.out.size)
        have HA7 := Lib.hid (HA4.out.below S7.out)
        have HW7 : Hid (W7 = (((((w6.setCell ⟨pa, 0, none⟩ (.int .i64 0)).setCell ⟨pa, 1, none⟩ (.slice none 0 0)).setCell ⟨pa, 2, none⟩ (.string ⟨#[]⟩)).setCell ⟨pa, 3, none⟩ (.bool false)).setCell ⟨pa, 4, none⟩ (.bool false))) := hW7
        have p0 := N6.out.cell 0
        have p1 := N6.out.cell 1
        have p2 := N6.out.cell 2
        have p3 := N6.out.cell 3
        have p4 := N6.out.cell 4
        have z0 := N6.out.frozen 0
        have z1 := N6.out.frozen 1
        have z2 := N6.out.frozen 2
        have z3 := N6.out.frozen 3
        have z4 := N6.out.frozen 4
        clear hW7 o7 d3
        refine one_ (i := 15) _ (by kernel_rfl) rfl (fun K hK => ?_)
        go_simp
        rw [← HW7.out]
        refine hK.out _ _ (K7.out.cell 3) (fun hHeld => ?_)
        clear hK K
        refine take_ (i := 16) (v := ?_) 14 rfl rfl (by kernel_rfl) (by kernel_rfl) (by kernel_rfl) (fun _ _ _ h => h) (Or.inl ⟨by rfl, ?_⟩) (by assumption) ?_
        rotate_left
        · (intro wS hSw; (try dsimp only at hSw); go_simp; try with_reducible rfl)
        simp only [Act.put, List.setIfInBounds_toArray]
        refine take_ (i := 17) (v := ?_) 15 rfl rfl (by kernel_rfl) (by kernel_rfl) (by kernel_rfl) (fun _ _ _ h => h) (Or.inl ⟨by rfl, ?_⟩) (by assumption) ?_
        rotate_left
        · (intro wS hSw; (try dsimp only at hSw); go_simp; try with_reducible rfl)
        simp only [Act.put, List.setIfInBounds_toArray]
        refine wpAnyH_done (by kernel_rfl) ?_ _
        refine NoPanic.normal ?_
        clear p0 p1 p2 p3 p4 z0 z1 z2 z3 z4
        have SM : Hid (Calls Tryd.prog 8 #[.agg #[.int .i64 st, .slice A4 n c4', .string bs, .bool false, .bool cl], .agg #[.int .i64 st, .slice A n c, .string bs, .bool false, .bool cl]] W7 fun e w' => e = .returned (.bool true) ∧ Below W7.heap.size W7 w') := by
          rw [← RV4.out, ← RVW.out]
          refine (same_any W7 (wantR r) (wantR r) A4 A c4' c HA7.out (HA.out.below B7.out) HF.out.n).mono ?_
          rintro e w' ⟨rfl, hb⟩
          exact ⟨by rw [same_want], hb⟩
        have x0 := H7.out.cell 0
        have x1 := H7.out.cell 1
        have x2 := H7.out.cell 2
        have x3 := H7.out.cell 3
        have x4 := H7.out.cell 4
        have y0 := J7.out.cell 0
        have y1 := J7.out.cell 1
        have y2 := J7.out.cell 2
        have y3 := J7.out.cell 3
        have y4 := J7.out.cell 4
        go_wp2_with fail
        refine SM.out.mono ?_
        rintro e w8 ⟨rfl, hb8⟩
        have B8 := Lib.hid (B7.out.trans (hb8.mono B7.out.size))
        clear hb8 SM
        go_wp2_with fail
        go_ret
        exact ⟨rfl, B8.out⟩
    · skip
      have WB : Hid ((⟨#[]⟩ : ByteArray) = S (wantR r).body) := by show _ = _; unfold wantR; simp only []; rw [← HHD.out]; rfl
      obtain ⟨W3, hW3⟩ : ∃ x, x = w2.alloc (.cells #[.int .i64 st, .slice A n c, .string (⟨#[]⟩ : ByteArray), .bool true, .bool cl] 24) := ⟨_, rfl⟩
      have HW3 := Lib.hid hW3
      have H3 : Hid (Held W3 w2.heap.size 24 #[.int .i64 st, .slice A n c, .string (⟨#[]⟩ : ByteArray), .bool true, .bool cl]) := by show Held _ _ _ _; rw [hW3]; exact Held.new _ _ _ rfl
      have B3 : Hid (Below w.heap.size w W3) := by show Below _ _ _; rw [hW3]; exact B2.out.alloc B2.out.size _
      have K3 : Hid (Held W3 w.heap.size 24 #[.int .i64 st, .slice A n c, .string bs, .bool true, .bool cl]) := by show Held _ _ _ _; rw [hW3]; exact L2.out.alloc _
      clear hW3
      go_wp2_with fail
      rw [← HW3.out]
      refine (R1.out _ (HE.out.below B3.out)).mono ?_
      rintro e w4 ⟨⟨r4, A4, c4', n4, ok4, rfl, hA4, hy4, hn4⟩, hb4⟩
      have B4 := Lib.hid (B3.out.trans (hb4.mono B3.out.size))
      have H4 := Lib.hid (H3.out.below hb4 H3.out.lt)
      have K4 := Lib.hid (K3.out.below hb4 K3.out.lt)
      cases ok4
      · have := (hn4 rfl).1
        rw [FR.out] at this
        cases this
      obtain ⟨z4, hz4, hl4⟩ := hy4 rfl
      rw [FR.out] at hz4
      simp only [Option.some.injEq, Prod.mk.injEq] at hz4
      obtain ⟨rfl, rfl⟩ := hz4
      have N4 : Hid (n4 = s.size) := by
        show _ = _
        rw [List.length_append] at hl4
        have := HSZ.out
        omega
      have f4 : ((n4 : Int) == (s.size : Int)) = true := by rw [N4.out]; simp
      have RV4 : Hid (rV (wantR r) A4 c4' = .agg #[.int .i64 st, .slice A4 n c4', .string (⟨#[]⟩ : ByteArray), .bool true, .bool cl]) := by
        show _ = _
        unfold rV
        rw [← WB.out]
        unfold wantR
        simp only []
        rw [← HN.out, ← HST.out, ← HHD.out, ← HCL.out]
      have RVW : Hid (rV (wantR r) A c = .agg #[.int .i64 st, .slice A n c, .string (⟨#[]⟩ : ByteArray), .bool true, .bool cl]) := by
        show _ = _
        unfold rV
        rw [← WB.out]
        unfold wantR
        simp only []
        rw [← HN.out, ← HST.out, ← HHD.out, ← HCL.out]
      rw [RV4.out]
      have HA4 := Lib.hid hA4
      obtain ⟨W5, hW5⟩ : ∃ x, x = w4.alloc (.cells #[.int .i64 st, .slice A4 n c4', .string (⟨#[]⟩ : ByteArray), .bool true, .bool cl] 24) := ⟨_, rfl⟩
      have HW5 := Lib.hid hW5
      have a5 : Below w4.heap.size w4 W5 := by rw [hW5]; exact (Below.refl _ _).alloc (Nat.le_refl _) _
      have H5 := Lib.hid (H4.out.below a5 H4.out.lt)
      have K5 := Lib.hid (K4.out.below a5 K4.out.lt)
      have B5 := Lib.hid (B4.out.trans (a5.mono B4.out.size))
      have HA5 := Lib.hid (HA4.out.below a5)
      have A5 := Lib.hid a5
      have J5 : Hid (Held W5 w4.heap.size 24 #[.int .i64 st, .slice A4 n c4', .string (⟨#[]⟩ : ByteArray), .bool true, .bool cl]) := by show Held _ _ _ _; rw [hW5]; exact Held.new _ _ _ rfl
      clear hb4 hA4 hy4 hn4 hl4 hW5 a5 R1
      have d3 := K5.out.cell 3
      have knn : k ≤ s.size := by omega
      have wc : IntKind.i64.wrap (cu : Int) = (cu : Int) := by rw [IntKind.wrap_i64]; omega
      have hse : ¬ s = ByteArray.empty := by
        intro h
        rw [h] at sp
        exact absurd sp (by decide)
      have kzz : (k : Int) ≤ (s.size : Int) := by omega
      go_upto_region 10 with fail
      rw [← HW5.out]
      refine wp_region_noPanic ?_
      refine wp_region_held_drew (S := fun w' => w'.cell? ⟨w.heap.size, 3, none⟩ = some (.bool true)) (by kernel_rfl) d3 (fun hHeld => ?_)
      refine take_ (i := 0) (v := ?_) 46 rfl rfl (by kernel_rfl) (by kernel_rfl) (by kernel_rfl) (fun _ _ _ h => h) (Or.inl ⟨by rfl, ?_⟩) (by assumption) ?_
      rotate_left
      · (intro wS hSw; (try dsimp only at hSw); go_simp; try with_reducible rfl)
      simp only [Act.put, List.setIfInBounds_toArray, List.set_cons_zero, List.set_cons_succ]
      refine take_ (i := 1) (v := ?_) 47 rfl rfl (by kernel_rfl) (by kernel_rfl) (by kernel_rfl) (fun _ _ _ h => h) (Or.inl ⟨by rfl, ?_⟩) (by assumption) ?_
      rotate_left
      · (intro wS hSw; (try dsimp only at hSw); go_simp; try with_reducible rfl)
      simp only [Act.put, List.setIfInBounds_toArray, List.set_cons_zero, List.set_cons_succ]
      refine take_ (i := 2) (v := ?_) 48 rfl rfl (by kernel_rfl) (by kernel_rfl) (by kernel_rfl) (fun _ _ _ h => h) (Or.inl ⟨by rfl, ?_⟩) (by assumption) ?_
      rotate_left
      · (intro wS hSw; (try dsimp only at hSw); go_simp; try with_reducible rfl)
      simp only [Act.put, List.setIfInBounds_toArray, List.set_cons_zero, List.set_cons_succ]
      refine take_ (i := 3) (v := ?_) 49 rfl rfl (by kernel_rfl) (by kernel_rfl) (by kernel_rfl) (fun _ _ _ h => h) (Or.inl ⟨by rfl, ?_⟩) (by assumption) ?_
      rotate_left
      · (intro wS hSw; (try dsimp only at hSw); go_simp; try with_reducible rfl)
      simp only [Act.put, List.setIfInBounds_toArray, List.set_cons_zero, List.set_cons_succ]
      refine take_ (i := 4) (v := ?_) 50 rfl rfl (by kernel_rfl) (by kernel_rfl) (by kernel_rfl) (fun _ _ _ h => h) (Or.inl ⟨by rfl, ?_⟩) (by assumption) ?_
      rotate_left
      · (intro wS hSw; (try dsimp only at hSw); go_simp; try with_reducible rfl)
      simp only [Act.put, List.setIfInBounds_toArray, List.set_cons_zero, List.set_cons_succ]
      refine take_ (i := 5) (v := ?_) 51 rfl rfl (by kernel_rfl) (by kernel_rfl) (by kernel_rfl) (fun _ _ _ h => h) (Or.inl ⟨by rfl, ?_⟩) (by assumption) ?_
      rotate_left
      · (intro wS hSw; (try dsimp only at hSw); go_simp; try with_reducible rfl)
      simp only [Act.put, List.setIfInBounds_toArray, List.set_cons_zero, List.set_cons_succ]
      refine take_ (i := 6) (v := ?_) 52 rfl rfl (by kernel_rfl) (by kernel_rfl) (by kernel_rfl) (fun _ _ _ h => h) (Or.inl ⟨by rfl, ?_⟩) (by assumption) ?_
      rotate_left
      · (intro wS hSw; (try dsimp only at hSw); go_simp; try with_reducible rfl)
      simp only [Act.put, List.setIfInBounds_toArray, List.set_cons_zero, List.set_cons_succ]
      refine take_ (i := 7) (v := ?_) 53 rfl rfl (by kernel_rfl) (by kernel_rfl) (by kernel_rfl) (fun _ _ _ h => h) (Or.inl ⟨by rfl, ?_⟩) (by assumption) ?_
      rotate_left
      · (intro wS hSw; (try dsimp only at hSw); go_simp; try with_reducible rfl)
      simp only [Act.put, List.setIfInBounds_toArray, List.set_cons_zero, List.set_cons_succ]
      refine take_ (i := 8) (v := ?_) 54 rfl rfl (by kernel_rfl) (by kernel_rfl) (by kernel_rfl) (fun _ _ _ h => h) (Or.inl ⟨by rfl, ?_⟩) (by assumption) ?_
      rotate_left
      · (intro wS hSw; (try dsimp only at hSw); go_simp; try with_reducible rfl)
      simp only [Act.put, List.setIfInBounds_toArray, List.set_cons_zero, List.set_cons_succ]
      refine two_ (i := 9) (j := 14) _ _ (by kernel_rfl) rfl rfl (fun K hK => ?_) (fun K hK => ?_)
      · skip
        go_simp
        refine (R2.out _ (HE.out.below B5.out.drew)).mono ?_
        rintro x w6 ⟨⟨r6, A6, c6, n6, ok6, rfl, hA6, hy6, hn6⟩, hb6⟩
        dsimp only
        cases ok6
        rotate_left
        · exfalso
          obtain ⟨z6, hz6, _⟩ := hy6 rfl
          rw [FN.out] at hz6
          cases hz6
        obtain ⟨_, rfl, rfl, rfl, rfl⟩ := hn6 rfl
        have e6 : rV zeroR none 0 = .agg #[.int .i64 0, .slice none 0 0, .string ⟨#[]⟩, .bool false, .bool false] := rfl
        rw [e6]
        have b6 : Below W5.heap.size W5 w6 := ((Below.refl W5.heap.size W5).drew).trans hb6
        have H6 := Lib.hid (H5.out.below b6 H5.out.lt)
        have K6 := Lib.hid (K5.out.below b6 K5.out.lt)
        have J6 := Lib.hid (J5.out.below b6 J5.out.lt)
        have B6 := Lib.hid (B5.out.trans (b6.mono B5.out.size))
        have HA6 := Lib.hid (HA5.out.below b6)
        clear hb6 hA6 hy6 hn6 e6 b6 R2
        refine hK.out _ _ (K6.out.cell 3) (fun hHeld => ?_)
        clear hK K
        refine take_ (i := 10) (v := ?_) 45 rfl rfl (by kernel_rfl) (by kernel_rfl) (by kernel_rfl) (fun _ _ _ h => h) (Or.inl ⟨by rfl, ?_⟩) (by assumption) ?_
        rotate_left
        · (intro wS hSw; (try dsimp only at hSw); go_simp; try with_reducible rfl)
        simp only [Act.put, List.setIfInBounds_toArray]
        refine take_ (i := 11) (v := ?_) 56 rfl rfl (by kernel_rfl) (by kernel_rfl) (by kernel_rfl) (fun _ _ _ h => h) (Or.inl ⟨by rfl, ?_⟩) (by assumption) ?_
        rotate_left
        · (intro wS hSw; (try dsimp only at hSw); go_simp; try with_reducible rfl)
        simp only [Act.put, List.setIfInBounds_toArray]
        refine take_ (i := 12) (v := ?_) 57 rfl rfl (by kernel_rfl) (by kernel_rfl) (by kernel_rfl) (fun _ _ _ h => h) (Or.inl ⟨by rfl, ?_⟩) (by assumption) ?_
        rotate_left
        · (intro wS hSw; (try dsimp only at hSw); go_simp; try with_reducible rfl)
        simp only [Act.put, List.setIfInBounds_toArray]
        refine take_ (i := 13) (v := ?_) 58 rfl rfl (by kernel_rfl) (by kernel_rfl) (by kernel_rfl) (fun _ _ _ h => h) (Or.inl ⟨by rfl, ?_⟩) (by assumption) ?_
        rotate_left
        · (intro wS hSw; (try dsimp only at hSw); go_simp; try with_reducible rfl)
        simp only [Act.put, List.setIfInBounds_toArray]
        refine one_ (i := 14) _ (by kernel_rfl) rfl (fun K hK => ?_)
        go_simp
        refine hK.out _ _ ((K6.out.alloc _).cell 3) (fun hHeld => ?_)
        clear hK K
        refine one_ (i := 15) _ (by kernel_rfl) rfl (fun K hK => ?_)
        go_simp
        refine hK.out _ _ ((K6.out.alloc _).cell 3) (fun hHeld => ?_)
        clear hK K
        refine take_ (i := 16) (v := ?_) 14 rfl rfl (by kernel_rfl) (by kernel_rfl) (by kernel_rfl) (fun _ _ _ h => h) (Or.inl ⟨by rfl, ?_⟩) (by assumption) ?_
        rotate_left
        · (intro wS hSw; (try dsimp only at hSw); go_simp; try with_reducible rfl)
        simp only [Act.put, List.setIfInBounds_toArray]
        refine take_ (i := 17) (v := ?_) 15 rfl rfl (by kernel_rfl) (by kernel_rfl) (by kernel_rfl) (fun _ _ _ h => h) (Or.inl ⟨by rfl, ?_⟩) (by assumption) ?_
        rotate_left
        · (intro wS hSw; (try dsimp only at hSw); go_simp; try with_reducible rfl)
        simp only [Act.put, List.setIfInBounds_toArray]
        refine wpAnyH_done (by kernel_rfl) ?_ _
        refine NoPanic.normal ?_
        obtain ⟨W7, hW7⟩ : ∃ x, x = w6.alloc (.cells #[.int .i64 0, .slice none 0 0, .string ⟨#[]⟩, .bool false, .bool false] 24) := ⟨_, rfl⟩
        have a7 : Below w6.heap.size w6 W7 := by rw [hW7]; exact (Below.refl _ _).alloc (Nat.le_refl _) _
        have H7 := Lib.hid (H6.out.below a7 H6.out.lt)
        have J7 := Lib.hid (J6.out.below a7 J6.out.lt)
        have B7 := Lib.hid (B6.out.trans (a7.mono B6.out.size))
        have HA7 := Lib.hid (HA6.out.below a7)
        rw [← hW7]
        clear hW7 a7 d3
        have SM : Hid (Calls Tryd.prog 8 #[.agg #[.int .i64 st, .slice A4 n c4', .string (⟨#[]⟩ : ByteArray), .bool true, .bool cl], .agg #[.int .i64 st, .slice A n c, .string (⟨#[]⟩ : ByteArray), .bool true, .bool cl]] W7 fun e w' => e = .returned (.bool true) ∧ Below W7.heap.size W7 w') := by
          rw [← RV4.out, ← RVW.out]
          refine (same_any W7 (wantR r) (wantR r) A4 A c4' c HA7.out (HA.out.below B7.out) HF.out.n).mono ?_
          rintro e w' ⟨rfl, hb⟩
          exact ⟨by rw [same_want], hb⟩
        have x0 := H7.out.cell 0
        have x1 := H7.out.cell 1
        have x2 := H7.out.cell 2
        have x3 := H7.out.cell 3
        have x4 := H7.out.cell 4
        have y0 := J7.out.cell 0
        have y1 := J7.out.cell 1
        have y2 := J7.out.cell 2
        have y3 := J7.out.cell 3
        have y4 := J7.out.cell 4
        go_wp2_with fail
        refine SM.out.mono ?_
        rintro e w8 ⟨rfl, hb8⟩
        have B8 := Lib.hid (B7.out.trans (hb8.mono B7.out.size))
        clear hb8 SM
        go_wp2_with fail
        go_ret
        exact ⟨rfl, B8.out⟩
      · skip
        go_simp
        obtain ⟨Wa, hWa⟩ : ∃ x, x = W5.alloc (.cells #[.int .i64 0, .slice none 0 0, .string ⟨#[]⟩, .bool false, .bool false] 24) := ⟨_, rfl⟩
        have HWa := Lib.hid hWa
        have aa : Below W5.heap.size W5 Wa := by rw [hWa]; exact (Below.refl _ _).alloc (Nat.le_refl _) _
        have Ha := Lib.hid (H5.out.below aa H5.out.lt)
        have Ka := Lib.hid (K5.out.below aa K5.out.lt)
        have Ja := Lib.hid (J5.out.below aa J5.out.lt)
        have Ba := Lib.hid (B5.out.trans (aa.mono B5.out.size))
        obtain ⟨pa, hpa⟩ : ∃ x, x = W5.heap.size := ⟨_, rfl⟩
        have Na : Hid (Held Wa pa 24 #[.int .i64 0, .slice none 0 0, .string ⟨#[]⟩, .bool false, .bool false]) := by show Held _ _ _ _; rw [hWa, hpa]; exact Held.new _ _ _ rfl
        have LH : Hid (w2.heap.size < pa ∧ w4.heap.size < pa) := by show _ ∧ _; rw [hpa]; exact ⟨H5.out.lt, J5.out.lt⟩
        have S4 : Hid (Below w4.heap.size w4 Wa) := (A5.out).trans (aa.mono A5.out.size)
        rw [← hWa, ← hpa]
        clear hWa aa hpa
        refine hK.out _ _ (Ka.out.cell 3) (fun hHeld => ?_)
        clear hK K
        refine one_ (i := 9) _ (by kernel_rfl) rfl (fun K hK => ?_)
        go_simp
        refine (R2.out _ (HE.out.below Ba.out.drew)).mono ?_
        rintro x w6 ⟨⟨r6, A6, c6, n6, ok6, rfl, hA6, hy6, hn6⟩, hb6⟩
        dsimp only
        cases ok6
        rotate_left
        · exfalso
          obtain ⟨z6, hz6, _⟩ := hy6 rfl
          rw [FN.out] at hz6
          cases hz6
        obtain ⟨_, rfl, rfl, rfl, rfl⟩ := hn6 rfl
        have e6 : rV zeroR none 0 = .agg #[.int .i64 0, .slice none 0 0, .string ⟨#[]⟩, .bool false, .bool false] := rfl
        rw [e6]
        have b6 : Below Wa.heap.size Wa w6 := ((Below.refl Wa.heap.size Wa).drew).trans hb6
        have H6 := Lib.hid (Ha.out.below b6 Ha.out.lt)
        have K6 := Lib.hid (Ka.out.below b6 Ka.out.lt)
        have J6 := Lib.hid (Ja.out.below b6 Ja.out.lt)
        have N6 := Lib.hid (Na.out.below b6 Na.out.lt)
        have B6 := Lib.hid (Ba.out.trans (b6.mono Ba.out.size))
        have S6 := Lib.hid (S4.out.trans (b6.mono S4.out.size))
        clear hb6 hA6 hy6 hn6 e6 b6 R2
        refine hK.out _ _ (K6.out.cell 3) (fun hHeld => ?_)
        clear hK K
        refine take_ (i := 10) (v := ?_) 45 rfl rfl (by kernel_rfl) (by kernel_rfl) (by kernel_rfl) (fun _ _ _ h => h) (Or.inl ⟨by rfl, ?_⟩) (by assumption) ?_
        rotate_left
        · (intro wS hSw; (try dsimp only at hSw); go_simp; try with_reducible rfl)
        simp only [Act.put, List.setIfInBounds_toArray]
        refine take_ (i := 11) (v := ?_) 56 rfl rfl (by kernel_rfl) (by kernel_rfl) (by kernel_rfl) (fun _ _ _ h => h) (Or.inl ⟨by rfl, ?_⟩) (by assumption) ?_
        rotate_left
        · (intro wS hSw; (try dsimp only at hSw); go_simp; try with_reducible rfl)
        simp only [Act.put, List.setIfInBounds_toArray]
        refine take_ (i := 12) (v := ?_) 57 rfl rfl (by kernel_rfl) (by kernel_rfl) (by kernel_rfl) (fun _ _ _ h => h) (Or.inl ⟨by rfl, ?_⟩) (by assumption) ?_
        rotate_left
        · (intro wS hSw; (try dsimp only at hSw); go_simp; try with_reducible rfl)
        simp only [Act.put, List.setIfInBounds_toArray]
        refine take_ (i := 13) (v := ?_) 58 rfl rfl (by kernel_rfl) (by kernel_rfl) (by kernel_rfl) (fun _ _ _ h => h) (Or.inl ⟨by rfl, ?_⟩) (by assumption) ?_
        rotate_left
        · (intro wS hSw; (try dsimp only at hSw); go_simp; try with_reducible rfl)
        simp only [Act.put, List.setIfInBounds_toArray]
        obtain ⟨W7, hW7⟩ : ∃ x, x = put5 w6 pa (.int .i64 0) (.slice none 0 0) (.string ⟨#[]⟩) (.bool false) (.bool false) := ⟨_, rfl⟩
        have o7 : Only [pa] w6 W7 := by rw [hW7]; exact put5_only _ _ _ _ _ _ _
        have H7 := Lib.hid (H6.out.only o7 (by have := LH.out.1; simp; omega))
        have K7 := Lib.hid (K6.out.only o7 (by have := LH.out.1; have := L2.out.lt; simp; omega))
        have J7 := Lib.hid (J6.out.only o7 (by have := LH.out.2; simp; omega))
        have S7 := Lib.hid (S6.out.trans (o7.below S6.out.size (fun x hx => by rw [List.mem_singleton.1 hx]; exact Nat.le_of_lt LH.out.2)))
        have B7 : Hid (Below w.heap.size w W7) := B4.out.trans (S7.out.mono B4.out.size)
        have HA7 := Lib.hid (HA4.out.below S7.out)
        have HW7 : Hid (W7 = (((((w6.setCell ⟨pa, 0, none⟩ (.int .i64 0)).setCell ⟨pa, 1, none⟩ (.slice none 0 0)).setCell ⟨pa, 2, none⟩ (.string ⟨#[]⟩)).setCell ⟨pa, 3, none⟩ (.bool false)).setCell ⟨pa, 4, none⟩ (.bool false))) := hW7
        have p0 := N6.out.cell 0
        have p1 := N6.out.cell 1
        have p2 := N6.out.cell 2
        have p3 := N6.out.cell 3
        have p4 := N6.out.cell 4
        have z0 := N6.out.frozen 0
        have z1 := N6.out.frozen 1
        have z2 := N6.out.frozen 2
        have z3 := N6.out.frozen 3
        have z4 := N6.out.frozen 4
        clear hW7 o7 d3
        refine one_ (i := 15) _ (by kernel_rfl) rfl (fun K hK => ?_)
        go_simp
        rw [← HW7.out]
        refine hK.out _ _ (K7.out.cell 3) (fun hHeld => ?_)
        clear hK K
        refine take_ (i := 16) (v := ?_) 14 rfl rfl (by kernel_rfl) (by kernel_rfl) (by kernel_rfl) (fun _ _ _ h => h) (Or.inl ⟨by rfl, ?_⟩) (by assumption) ?_
        rotate_left
        · (intro wS hSw; (try dsimp only at hSw); go_simp; try with_reducible rfl)
        simp only [Act.put, List.setIfInBounds_toArray]
        refine take_ (i := 17) (v := ?_) 15 rfl rfl (by kernel_rfl) (by kernel_rfl) (by kernel_rfl) (fun _ _ _ h => h) (Or.inl ⟨by rfl, ?_⟩) (by assumption) ?_
        rotate_left
        · (intro wS hSw; (try dsimp only at hSw); go_simp; try with_reducible rfl)
        simp only [Act.put, List.setIfInBounds_toArray]
        refine wpAnyH_done (by kernel_rfl) ?_ _
        refine NoPanic.normal ?_
        clear p0 p1 p2 p3 p4 z0 z1 z2 z3 z4
        have SM : Hid (Calls Tryd.prog 8 #[.agg #[.int .i64 st, .slice A4 n c4', .string (⟨#[]⟩ : ByteArray), .bool true, .bool cl], .agg #[.int .i64 st, .slice A n c, .string (⟨#[]⟩ : ByteArray), .bool true, .bool cl]] W7 fun e w' => e = .returned (.bool true) ∧ Below W7.heap.size W7 w') := by
          rw [← RV4.out, ← RVW.out]
          refine (same_any W7 (wantR r) (wantR r) A4 A c4' c HA7.out (HA.out.below B7.out) HF.out.n).mono ?_
          rintro e w' ⟨rfl, hb⟩
          exact ⟨by rw [same_want], hb⟩
        have x0 := H7.out.cell 0
        have x1 := H7.out.cell 1
        have x2 := H7.out.cell 2
        have x3 := H7.out.cell 3
        have x4 := H7.out.cell 4
        have y0 := J7.out.cell 0
        have y1 := J7.out.cell 1
        have y2 := J7.out.cell 2
        have y3 := J7.out.cell 3
        have y4 := J7.out.cell 4
        go_wp2_with fail
        refine SM.out.mono ?_
        rintro e w8 ⟨rfl, hb8⟩
        have B8 := Lib.hid (B7.out.trans (hb8.mono B7.out.size))
        clear hb8 SM
        go_wp2_with fail
        go_ret
        exact ⟨rfl, B8.out⟩
theorem wf16 {z : Int} (h : (Lit.int .u16 z).wf = true) : 0 ≤ z ∧ z ≤ 65535 := by
  simpa [Lit.wf, IntKind.min, IntKind.max, IntKind.signed, IntKind.bits] using h
set_option maxRecDepth 100000 in
theorem opens {H : Type} {enc : TypeId × Value → H} {W : World} {base : Nat} {args : Array Value} {ds : List (DataW H)} {p : List MemPlace}
    (hval : ∀ (j : Nat) t v, Tryd.f3.params[j]? = some t → args[j]? = some v → Value.okWide Tryd.prog W .any base t v)
    (hA : DataW.TrodAll enc Tryd.prog W 0 (fun _ => true) true Tryd.f3.params.toList args.toList ds p) (hlt : ∀ x ∈ p, x.block < W.heap.size) (hk : Rows.uptoBulkAll ds ≤ 1048576) (hE : Env W) :
    Calls Tryd.prog 3 args W fun e W' => e = .returned (.bool true) ∧ Below W.heap.size W W' := by
  rw [Tryd.params3] at hA hval
  obtain ⟨v0, vs0, d0, ds0, p0, q0, hargs, rfl, rfl, h0, r0⟩ := trodAll_cons hA
  obtain ⟨v1, vs1, d1, ds1, p1, q1, rfl, rfl, rfl, h1, r1⟩ := trodAll_cons r0
  obtain ⟨v2, vs2, d2, ds2, p2, q2, rfl, rfl, rfl, h2, r2⟩ := trodAll_cons r1
  obtain ⟨rfl, rfl, rfl⟩ := trodAll_nil r2
  obtain rfl : args = #[v0, v1, v2] := Array.toList_inj.1 hargs
  simp only [Rows.uptoBulkAll] at hk
  obtain ⟨r, A, c, rfl, hF, hH⟩ := open_resp (hval 0 24 v0 rfl rfl) h0 (by omega)
  obtain ⟨l, rfl, hl⟩ := open_str (hval 1 9 v1 rfl rfl) h1 (by omega)
  obtain ⟨fuel, hf2⟩ := h2
  obtain ⟨z, rfl⟩ := okWide_int Tryd.underlying25 (hval 2 25 v2 rfl rfl)
  obtain ⟨z2, e2, _, w2⟩ := DataW.trod_int Tryd.underlying25 hf2
  have e3 : z = z2 := by simpa [Value.cells] using e2
  subst e3
  have hz := wf16 w2
  obtain ⟨cu, rfl⟩ : ∃ cu : Nat, z = (cu : Int) := ⟨z.toNat, by omega⟩
  exact walk W r A c l cu hF hH hl (by omega) hE
theorem witness_row (os : Os) {H : Type} (enc : TypeId × Value → H) :
    (Rows.OpenSpec.upto Rows.replyBackSpec).preRow enc Tryd.prog Tryd.f3 Rows.replyBackUptoRow.domain false Rows.replyBackUptoRow.laid ((startW os).forCall (fun _ _ => 0) ⟨#[], #[.agg #[.int .i64 0, .slice none 0 0, .string ⟨#[]⟩, .bool false, .bool false], .string ⟨#[]⟩, .int .u16 0], []⟩).memory #[.agg #[.int .i64 0, .slice none 0 0, .string ⟨#[]⟩, .bool false, .bool false], .string ⟨#[]⟩, .int .u16 0] := by
  have hw : (DataW.whole enc Tryd.prog ((startW os).forCall (fun _ _ => 0) ⟨#[], #[.agg #[.int .i64 0, .slice none 0 0, .string ⟨#[]⟩, .bool false, .bool false], .string ⟨#[]⟩, .int .u16 0], []⟩).memory Tryd.f3.params.toList Rows.replyBackSpec.vars false (#[.agg #[.int .i64 0, .slice none 0 0, .string ⟨#[]⟩, .bool false, .bool false], .string ⟨#[]⟩, .int .u16 0] : Array Value).toList 8).map (fun x => (x.1, x.2.1)) =
      some ([.agg [.lit (.int .i64 0), .nil, .lit (.string []), .lit (.bool false), .lit (.bool false)], .lit (.string []), .lit (.int .u16 0)], []) := by kernel_rfl
  obtain ⟨⟨x1, x2, x3⟩, hx, hx1⟩ := Option.map_eq_some_iff.1 hw
  simp only [Prod.mk.injEq] at hx1
  obtain ⟨rfl, rfl⟩ := hx1
  exact OpenSpec.preRow_of_cond 8 hx (by kernel_rfl) (fun k hk => by cases hk; kernel_rfl) (by kernel_rfl) (door_met os _)
set_option maxRecDepth 100000 in
theorem lifted (os : Os) (started : os.Started) (H : Type) (enc : TypeId × Value → H) (F : Stop.Interp) :
    ReturnsInHanded {} Tryd.checked os 3 .any ((Rows.OpenSpec.upto Rows.replyBackSpec).preRow enc Tryd.prog Tryd.f3 Rows.replyBackUptoRow.domain false Rows.replyBackUptoRow.laid) (((Rows.OpenSpec.upto Rows.replyBackSpec).at F).post enc Tryd.prog Tryd.f3 false true false false) := by
  refine returnsInHanded_of_row (C := Tryd.checked) (s := Rows.OpenSpec.upto Rows.replyBackSpec) own started (by kernel_rfl) Tryd.func3
    (witness_row_atRef (enc := enc) (C := Tryd.checked) false (startW os) #[.agg #[.int .i64 0, .slice none 0 0, .string ⟨#[]⟩, .bool false, .bool false], .string ⟨#[]⟩, .int .u16 0] rfl (by kernel_rfl) (by kernel_rfl) (by kernel_rfl) (witness_row os enc)) ?_
  intro W base args ds gs before hval hW _ hcond _ hL hsh _
  have hk := hcond _ rfl
  refine law_calls (s := Rows.replyBackSpec) laidOut Tryd.underlying4 rfl (by rw [Tryd.params3]; exact of_decide_eq_true (by kernel_rfl)) rfl (fun ds h => by match ds, h with | [_, _, _], _ => rfl) hW ?_
  obtain ⟨rfl, p, hA, hlt⟩ := law_args rfl hW
  have hb : Rows.uptoBulkAll (ds ++ []) ≤ 1048576 := of_decide_eq_true hk
  rw [List.append_nil] at hb
  exact opens hval hA hlt hb (env_of hL hsh)

theorem saidUpto : Rows.ReplyBackUptoSaid :=
  OpenClaim.holds_of_cond 3 Tryd.f3 rfl rfl rfl rfl rfl rfl rfl ⟨rfl, rfl, rfl, rfl, rfl⟩ rfl rfl rfl rfl rfl (by kernel_rfl) Tryd.func3 (by kernel_rfl)
    (of_decide_eq_true (by kernel_rfl)) (by unfold Func.isWrapper; first | (rw [if_pos (by decide +kernel)]; kernel_rfl) | (rw [if_neg (by decide +kernel)]; exact ⟨rfl, rfl⟩))
    (fun os started H enc _ F => by rw [OpenClaim.pre_eq_preRow]; exact lifted os started H enc F)
theorem plain (f : FuncId) (fn : Func) (hf : Tryd.pinned.checked.prog.funcNamed "docket/docketlaw12.ReplyBack" = some f) (hfn : Tryd.pinned.checked.prog.funcs[f]? = some fn) :
    true = Tryd.pinned.checked.prog.looks [] ∧ ∀ (j : Nat) t, fn.params[j]? = some t → Tryd.pinned.checked.prog.wantsStandIn t = false := by
  obtain rfl : f = 3 := Option.some.inj ((show Tryd.prog.funcNamed "docket/docketlaw12.ReplyBack" = some 3 by kernel_rfl).symm.trans hf) |>.symm
  obtain rfl : fn = Tryd.f3 := (Option.some.inj (Tryd.func3.symm.trans hfn)).symm
  exact ⟨by kernel_rfl, fun j t ht => (of_decide_eq_true (p := ∀ t ∈ Tryd.f3.params.toList, Tryd.prog.wantsStandIn t = false) (by kernel_rfl)) t (Array.mem_toList_iff.2 (Array.mem_of_getElem? ht))⟩
theorem proved : Rows.ReplyBackUptoCardSaid :=
  Claim7.holds_tied_plain_at .later [] _ _ _ _ saidUpto (fun _ h => by cases h) (by kernel_rfl) (fun _ h => by cases h) replyBackUpto_row_tie rfl ⟨rfl, rfl⟩ (by kernel_rfl) rfl plain (by kernel_rfl)

end Go.Proofs.YtdojchamdcokiaaDoor.replyBack
