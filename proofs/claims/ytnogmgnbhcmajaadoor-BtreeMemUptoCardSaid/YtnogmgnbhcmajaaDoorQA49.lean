/-
  btree: what Put does to a leaf.
-/
import Derived.Test.YtnogmgnbhcmajaaDoorQA46
namespace Go.Proofs.YtnogmgnbhcmajaaDoor
open Go.RowKit Wal

set_option maxRecDepth 100000 in
set_option maxHeartbeats 6400000 in
theorem put_ed (B C : Nat) (w0 : World) (kc vc : Nat) (key val : List Nat) (hk8 : ∀ x ∈ key, x < 256) (hv8 : ∀ x ∈ val, x < 256) (hkc : Held w0 kc 9 #[.string (strB key)]) (hvc : Held w0 vc 9 #[.string (strB val)]) : EdAt B C w0 24 #[.pointer (some ⟨kc, 0, none⟩), .pointer (some ⟨vc, 0, none⟩)] (putO key val) := by
  intro W hW X kb base A c ents u hX hX2 hX3 hh ho hr hok hs
  have HH := Lib.hid hh
  have HO := Lib.hid ho
  have HR := Lib.hid hr
  have HOK := Lib.hid hok
  have KC := Lib.hid (hW.held hkc (by decide) (fun e => absurd e (by decide)))
  have VC := Lib.hid (hW.held hvc (by decide) (fun e => absurd e (by decide)))
  have FW := few_leaf hok hs
  have EA : Hid (∀ W', OwnEn W' base (.slice A ents.length c) ents → EAt W' A ents) := fun W' hW' => by
    obtain ⟨A', c', e, _, h1⟩ := hW'.any
    injection e with e1 _ _
    subst e1
    exact h1
  have BD : Hid (Below W.heap.size W W.drew) := (Below.refl _ _).drew
  have FD := Lib.hid (find_any W.drew 1 u A c ents (EA.out _ (ho.below_ BD.out)) hr (fun e he => (hok e he).kb) (by omega) key hk8)
  have e1 : ((1 : Nat) : Int) = 1 := rfl
  unfold noV at FD
  rw [e1] at FD
  have s0 : W.cell? ⟨kb, 0, none⟩ = some (.int .i64 1) ∧ W.cell? ⟨kb, 1, none⟩ = some (.slice A ents.length c) ∧ W.cell? ⟨kb, 2, none⟩ = some (.string (strB u)) ∧ W.cell? ⟨kc, 0, none⟩ = some (.string (strB key)) := ⟨hh.cell 0, hh.cell 1, hh.cell 2, KC.out.cell 0⟩
  obtain ⟨m, hm⟩ : ∃ m, m = ents.length := ⟨_, rfl⟩
  rw [← hm] at s0 FD
  have HM := Lib.hid hm
  have HV8 := Lib.hid hv8
  clear hW hkc hvc hh ho hr hok hs e1 hm hv8
  go_enter Tryd.func24, Tryd.ntmps24
  go_upto_region 1 with fail
  refine wp_region_noPanic ?_
  refine wp_region_held_drew (S := fun w' => w'.cell? ⟨kb, 0, none⟩ = some (.int .i64 1) ∧ w'.cell? ⟨kb, 1, none⟩ = some (.slice A m c) ∧ w'.cell? ⟨kb, 2, none⟩ = some (.string (strB u)) ∧ w'.cell? ⟨kc, 0, none⟩ = some (.string (strB key))) (by kernel_rfl) s0 (fun hHeld => ?_)
  refine take_ (i := 0) (v := ?_) 8 rfl rfl (by kernel_rfl) (by kernel_rfl) (by kernel_rfl) (fun _ _ _ h => h) (Or.inl ⟨by rfl, ?_⟩) (by assumption) ?_
  rotate_left
  · (intro wS hSw; (try dsimp only at hSw); go_simp; try with_reducible rfl)
  simp only [Act.put, List.setIfInBounds_toArray]
  refine take_ (i := 1) (v := ?_) 9 rfl rfl (by kernel_rfl) (by kernel_rfl) (by kernel_rfl) (fun _ _ _ h => h) (Or.inl ⟨by rfl, ?_⟩) (by assumption) ?_
  rotate_left
  · (intro wS hSw; (try dsimp only at hSw); go_simp; try with_reducible rfl)
  simp only [Act.put, List.setIfInBounds_toArray]
  refine take_ (i := 2) (v := ?_) 10 rfl rfl (by kernel_rfl) (by kernel_rfl) (by kernel_rfl) (fun _ _ _ h => h) (Or.inl ⟨by rfl, ?_⟩) (by assumption) ?_
  rotate_left
  · (intro wS hSw; (try dsimp only at hSw); go_simp; try with_reducible rfl)
  simp only [Act.put, List.setIfInBounds_toArray]
  refine take_ (i := 3) (v := ?_) 11 rfl rfl (by kernel_rfl) (by kernel_rfl) (by kernel_rfl) (fun _ _ _ h => h) (Or.inl ⟨by rfl, ?_⟩) (by assumption) ?_
  rotate_left
  · (intro wS hSw; (try dsimp only at hSw); go_simp; try with_reducible rfl)
  simp only [Act.put, List.setIfInBounds_toArray]
  refine one_ (i := 4) _ (by kernel_rfl) rfl (fun K hK => ?_)
  go_simp
  refine FD.out.mono ?_
  rintro x w2 ⟨i, hsp, rfl, hb2⟩
  dsimp only
  have B2 : Hid (Below W.heap.size W w2) := BD.out.trans (hb2.mono BD.out.size)
  have H2 := Lib.hid (Held.below HH.out B2.out HH.out.lt)
  have KC2 := Lib.hid (Held.below KC.out B2.out KC.out.lt)
  have VC2 := Lib.hid (Held.below VC.out B2.out VC.out.lt)
  have O2 := Lib.hid (HO.out.below_ B2.out)
  have SP := Lib.hid hsp
  have s1 : w2.cell? ⟨kb, 0, none⟩ = some (.int .i64 1) ∧ w2.cell? ⟨kb, 1, none⟩ = some (.slice A m c) ∧ w2.cell? ⟨kb, 2, none⟩ = some (.string (strB u)) ∧ w2.cell? ⟨kc, 0, none⟩ = some (.string (strB key)) := ⟨H2.out.cell 0, by rw [HM.out]; exact H2.out.cell 1, H2.out.cell 2, KC2.out.cell 0⟩
  clear hsp hb2 s0 FD
  refine hK.out _ _ s1 (fun hHeld => ?_)
  clear hK K
  cases hat : isAt ents key i with
  | false =>
    have PN := Lib.hid (putO_new (v := val) SP.out HR.out (isAt_no hat))
    have c1 := s1.2.1
    have s2 : w2.cell? ⟨kc, 0, none⟩ = some (.string (strB key)) ∧ w2.cell? ⟨vc, 0, none⟩ = some (.string (strB val)) := ⟨KC2.out.cell 0, VC2.out.cell 0⟩
    obtain ⟨vb, hvb⟩ : ∃ vb, vb = w2.heap.size := ⟨_, rfl⟩
    obtain ⟨w3, hw3⟩ : ∃ w3, w3 = (w2.alloc (.cells #[.string (strB key), .string (strB val)] 77)).drew := ⟨_, rfl⟩
    have U3 : Hid (Below w2.heap.size w2 w3) := by rw [hw3]; exact ((Below.refl _ _).alloc (Nat.le_refl _) _).drew
    have B3 : Hid (Below W.heap.size W w3) := B2.out.trans (U3.out.mono B2.out.size)
    have ON3 : Hid (OneEn w3 vb (key, val)) := by rw [hw3]; exact Held.new w2 _ _ hvb
    have O3 := Lib.hid (O2.out.below_ U3.out)
    have H3 := Lib.hid (Held.below H2.out U3.out H2.out.lt)
    have KC3 := Lib.hid (Held.below KC2.out U3.out KC2.out.lt)
    have VC3 := Lib.hid (Held.below VC2.out U3.out VC2.out.lt)
    have IN := Lib.hid (insert_any w3 base _ ents O3.out i SP.out.le vb (key, val) ON3.out (fun e => by
      have := (World.ownsRow.lt O2.out _ e).2
      omega) (Nat.le_trans hX3 B3.out.size) FW)
    rw [← HM.out] at IN
    have s3 : w3.cell? ⟨kc, 0, none⟩ = some (.string (strB key)) ∧ w3.cell? ⟨vc, 0, none⟩ = some (.string (strB val)) := ⟨KC3.out.cell 0, VC3.out.cell 0⟩
    have c3 : w3.cell? ⟨kb, 1, none⟩ = some (.slice A m c) := by rw [HM.out]; exact H3.out.cell 1
    have HW3 := Lib.hid hw3
    have HVB := Lib.hid hvb
    clear hat s1 hw3 hvb
    refine take_ (i := 5) (v := ?_) 7 rfl rfl (by kernel_rfl) (by kernel_rfl) (by kernel_rfl) (fun _ _ _ h => h) (Or.inl ⟨by rfl, ?_⟩) (by assumption) ?_
    rotate_left
    · (intro wS hSw; (try dsimp only at hSw); go_simp; try with_reducible rfl)
    simp only [Act.put, List.setIfInBounds_toArray]
    refine take_ (i := 6) (v := ?_) 13 rfl rfl (by kernel_rfl) (by kernel_rfl) (by kernel_rfl) (fun _ _ _ h => h) (Or.inl ⟨by rfl, ?_⟩) (by assumption) ?_
    rotate_left
    · (intro wS hSw; (try dsimp only at hSw); go_simp; try with_reducible rfl)
    simp only [Act.put, List.setIfInBounds_toArray]
    refine take_ (i := 7) (v := ?_) 14 rfl rfl (by kernel_rfl) (by kernel_rfl) (by kernel_rfl) (fun _ _ _ h => h) (Or.inl ⟨by rfl, ?_⟩) (by assumption) ?_
    rotate_left
    · (intro wS hSw; (try dsimp only at hSw); go_simp; try with_reducible rfl)
    simp only [Act.put, List.setIfInBounds_toArray]
    refine take_ (i := 8) (v := ?_) 5 rfl rfl (by kernel_rfl) (by kernel_rfl) (by kernel_rfl) (fun _ _ _ h => h) (Or.inl ⟨by rfl, ?_⟩) (by assumption) ?_
    rotate_left
    · (intro wS hSw; (try dsimp only at hSw); go_simp; try with_reducible rfl)
    simp only [Act.put, List.setIfInBounds_toArray]
    refine take_ (i := 9) (v := ?_) 6 rfl rfl (by kernel_rfl) (by kernel_rfl) (by kernel_rfl) (fun _ _ _ h => h) (Or.inl ⟨by rfl, ?_⟩) (by assumption) ?_
    rotate_left
    · (intro wS hSw; (try dsimp only at hSw); go_simp; try with_reducible rfl)
    simp only [Act.put, List.setIfInBounds_toArray]
    refine wpAnyH_done (by kernel_rfl) ?_ _
    refine NoPanic.normal ?_
    go_upto_region 4 with fail
    refine wp_region_noPanic ?_
    refine wp_region_held_drew (S := fun w' => w'.cell? ⟨kc, 0, none⟩ = some (.string (strB key)) ∧ w'.cell? ⟨vc, 0, none⟩ = some (.string (strB val))) (by kernel_rfl) s2 (fun hHeld => ?_)
    refine take_ (i := 0) (v := ?_) 26 rfl rfl (by kernel_rfl) (by kernel_rfl) (by kernel_rfl) (fun _ _ _ h => h) (Or.inl ⟨by rfl, ?_⟩) (by assumption) ?_
    rotate_left
    · (intro wS hSw; (try dsimp only at hSw); go_simp; try with_reducible rfl)
    simp only [Act.put, List.setIfInBounds_toArray]
    refine take_ (i := 1) (v := ?_) 27 rfl rfl (by kernel_rfl) (by kernel_rfl) (by kernel_rfl) (fun _ _ _ h => h) (Or.inl ⟨by rfl, ?_⟩) (by assumption) ?_
    rotate_left
    · (intro wS hSw; (try dsimp only at hSw); go_simp; try with_reducible rfl)
    simp only [Act.put, List.setIfInBounds_toArray]
    refine take_ (i := 2) (v := ?_) 28 rfl rfl (by kernel_rfl) (by kernel_rfl) (by kernel_rfl) (fun _ _ _ h => h) (Or.inl ⟨by rfl, ?_⟩) (by assumption) ?_
    rotate_left
    · (intro wS hSw; (try dsimp only at hSw); go_simp; try with_reducible rfl)
    simp only [Act.put, List.setIfInBounds_toArray]
    refine take_ (i := 3) (v := ?_) 29 rfl rfl (by kernel_rfl) (by kernel_rfl) (by kernel_rfl) (fun _ _ _ h => h) (Or.inl ⟨by rfl, ?_⟩) (by assumption) ?_
    rotate_left
    · (intro wS hSw; (try dsimp only at hSw); go_simp; try with_reducible rfl)
    simp only [Act.put, List.setIfInBounds_toArray]
    refine take_ (i := 5) (v := ?_) 31 rfl rfl (by kernel_rfl) (by kernel_rfl) (by kernel_rfl) (fun _ _ _ h => h) (Or.inl ⟨by rfl, ?_⟩) (by assumption) ?_
    rotate_left
    · (intro wS hSw; (try dsimp only at hSw); go_simp; try with_reducible rfl)
    simp only [Act.put, List.setIfInBounds_toArray]
    refine take_ (i := 6) (v := ?_) 32 rfl rfl (by kernel_rfl) (by kernel_rfl) (by kernel_rfl) (fun _ _ _ h => h) (Or.inl ⟨by rfl, ?_⟩) (by assumption) ?_
    rotate_left
    · (intro wS hSw; (try dsimp only at hSw); go_simp; try with_reducible rfl)
    simp only [Act.put, List.setIfInBounds_toArray]
    refine take_ (i := 7) (v := ?_) 33 rfl rfl (by kernel_rfl) (by kernel_rfl) (by kernel_rfl) (fun _ _ _ h => h) (Or.inl ⟨by rfl, ?_⟩) (by assumption) ?_
    rotate_left
    · (intro wS hSw; (try dsimp only at hSw); go_simp; try with_reducible rfl)
    simp only [Act.put, List.setIfInBounds_toArray]
    refine take_ (i := 8) (v := ?_) 34 rfl rfl (by kernel_rfl) (by kernel_rfl) (by kernel_rfl) (fun _ _ _ h => h) (Or.inl ⟨by rfl, ?_⟩) (by assumption) ?_
    rotate_left
    · (intro wS hSw; (try dsimp only at hSw); go_simp; try with_reducible rfl)
    simp only [Act.put, List.setIfInBounds_toArray]
    refine two_ (i := 4) (j := 9) _ _ (by kernel_rfl) rfl rfl (fun K hK => ?_) (fun K hK => ?_)
    · go_simp
      refine hK.out _ _ s2 (fun hHeld => ?_)
      clear hK K
      refine one_ (i := 9) _ (by kernel_rfl) rfl (fun K hK => ?_)
      go_simp
      rw [← HW3.out, ← HVB.out]
      refine hK.out _ _ s3 (fun hHeld => ?_)
      clear hK K
      refine one_ (i := 10) _ (by kernel_rfl) rfl (fun K hK => ?_)
      go_simp
      refine IN.out.mono ?_
      rintro x w4 ⟨v4, rfl, ho4, hg4⟩
      dsimp only
      have KS4 : Hid (KpS [77, 79] X W w4) := (KpS.under B3.out).trans ((KpS.refl _ _ _).grown O3.out (by rw [← HM.out]; exact hg4) (by simp) hX2)
      have KE4 : Hid (KpS [77] 0 w3 w4) := (KpS.refl _ _ _).grown O3.out (by rw [← HM.out]; exact hg4) (by simp) (Nat.zero_le _)
      have H4 : Hid (Held w4 kb 79 #[.int .i64 1, .slice A ents.length c, .string (strB u)]) := KE4.out.held H3.out (by decide)
      have KC4 := Lib.hid (KE4.out.held KC3.out (by decide))
      have VC4 := Lib.hid (KE4.out.held VC3.out (by decide))
      obtain ⟨A4, c4, rfl, _, _⟩ := ho4.any
      obtain ⟨m4, hm4⟩ : ∃ m4, m4 = (ents.take i ++ (key, val) :: ents.drop i).length := ⟨_, rfl⟩
      rw [← hm4]
      have O4 := Lib.hid ho4
      have FIN : Hid (∀ w5, w5 = w4.setCell ⟨kb, 1, none⟩ (.slice A4 m4 c4) → (∃ ch A' c' ents', (Ending.returned (.bool true)) = .returned (.bool ch) ∧ Held w5 kb 79 #[.int .i64 1, .slice A' ents'.length c', .string (strB u)] ∧ OwnEn w5 base (.slice A' ents'.length c') ents' ∧ KpS [77, 79] X W w5 ∧ putO key val ents = if ch then some ents' else none)) := by
        rintro w5 rfl
        refine ⟨true, A4, c4, ents.take i ++ (key, val) :: ents.drop i, rfl, ?_, ?_, KS4.out.set_ H4.out (by simp) hX 1 _, PN.out⟩
        · rw [← hm4]
          exact H4.out.set_ 1 _
        · exact ((KpS.refl [79] 0 w4).set_ H4.out (by simp) (Nat.zero_le _) 1 _).row O4.out (by decide)
      have s4 : w4.cell? ⟨kc, 0, none⟩ = some (.string (strB key)) ∧ w4.cell? ⟨vc, 0, none⟩ = some (.string (strB val)) := ⟨KC4.out.cell 0, VC4.out.cell 0⟩
      have s5 : (w4.setCell ⟨kb, 1, none⟩ (.slice A4 m4 c4)).cell? ⟨kc, 0, none⟩ = some (.string (strB key)) ∧ (w4.setCell ⟨kb, 1, none⟩ (.slice A4 m4 c4)).cell? ⟨vc, 0, none⟩ = some (.string (strB val)) := ⟨(KC4.out.far (p := ⟨kb, 1, none⟩) (Held.ne_ KC4.out H4.out (by decide)) _).cell 0, (VC4.out.far (p := ⟨kb, 1, none⟩) (Held.ne_ VC4.out H4.out (by decide)) _).cell 0⟩
      have n1 := H4.out.cell 1
      have z1 := H4.out.frozen 1
      clear ho4 hg4 hm4 IN
      refine hK.out _ _ s4 (fun hHeld => ?_)
      clear hK K
      refine take_ (i := 11) (v := ?_) 37 rfl rfl (by kernel_rfl) (by kernel_rfl) (by kernel_rfl) (fun _ _ _ h => h) (Or.inl ⟨by rfl, ?_⟩) (by assumption) ?_
      rotate_left
      · (intro wS hSw; (try dsimp only at hSw); go_simp; try with_reducible rfl)
      simp only [Act.put, List.setIfInBounds_toArray]
      refine take_ (i := 12) (v := ?_) 38 rfl rfl (by kernel_rfl) (by kernel_rfl) (by kernel_rfl) (fun _ _ _ h => h) (Or.inl ⟨by rfl, ?_⟩) (by assumption) ?_
      rotate_left
      · (intro wS hSw; (try dsimp only at hSw); go_simp; try with_reducible rfl)
      simp only [Act.put, List.setIfInBounds_toArray]
      refine one_ (i := 13) _ (by kernel_rfl) rfl (fun K hK => ?_)
      go_simp
      refine hK.out _ _ s5 (fun hHeld => ?_)
      clear hK K
      clear s4 s5 s2 s3 c1 c3
      refine wpAnyH_done (by kernel_rfl) ?_ _
      refine NoPanic.normal ?_
      go_wp2_with fail
      go_ret
      exact FIN.out _ rfl
    · go_simp
      rw [← HW3.out, ← HVB.out]
      refine hK.out _ _ s3 (fun hHeld => ?_)
      clear hK K
      refine one_ (i := 4) _ (by kernel_rfl) rfl (fun K hK => ?_)
      go_simp
      refine hK.out _ _ s3 (fun hHeld => ?_)
      clear hK K
      refine one_ (i := 10) _ (by kernel_rfl) rfl (fun K hK => ?_)
      go_simp
      refine IN.out.mono ?_
      rintro x w4 ⟨v4, rfl, ho4, hg4⟩
      dsimp only
      have KS4 : Hid (KpS [77, 79] X W w4) := (KpS.under B3.out).trans ((KpS.refl _ _ _).grown O3.out (by rw [← HM.out]; exact hg4) (by simp) hX2)
      have KE4 : Hid (KpS [77] 0 w3 w4) := (KpS.refl _ _ _).grown O3.out (by rw [← HM.out]; exact hg4) (by simp) (Nat.zero_le _)
      have H4 : Hid (Held w4 kb 79 #[.int .i64 1, .slice A ents.length c, .string (strB u)]) := KE4.out.held H3.out (by decide)
      have KC4 := Lib.hid (KE4.out.held KC3.out (by decide))
      have VC4 := Lib.hid (KE4.out.held VC3.out (by decide))
      obtain ⟨A4, c4, rfl, _, _⟩ := ho4.any
      obtain ⟨m4, hm4⟩ : ∃ m4, m4 = (ents.take i ++ (key, val) :: ents.drop i).length := ⟨_, rfl⟩
      rw [← hm4]
      have O4 := Lib.hid ho4
      have FIN : Hid (∀ w5, w5 = w4.setCell ⟨kb, 1, none⟩ (.slice A4 m4 c4) → (∃ ch A' c' ents', (Ending.returned (.bool true)) = .returned (.bool ch) ∧ Held w5 kb 79 #[.int .i64 1, .slice A' ents'.length c', .string (strB u)] ∧ OwnEn w5 base (.slice A' ents'.length c') ents' ∧ KpS [77, 79] X W w5 ∧ putO key val ents = if ch then some ents' else none)) := by
        rintro w5 rfl
        refine ⟨true, A4, c4, ents.take i ++ (key, val) :: ents.drop i, rfl, ?_, ?_, KS4.out.set_ H4.out (by simp) hX 1 _, PN.out⟩
        · rw [← hm4]
          exact H4.out.set_ 1 _
        · exact ((KpS.refl [79] 0 w4).set_ H4.out (by simp) (Nat.zero_le _) 1 _).row O4.out (by decide)
      have s4 : w4.cell? ⟨kc, 0, none⟩ = some (.string (strB key)) ∧ w4.cell? ⟨vc, 0, none⟩ = some (.string (strB val)) := ⟨KC4.out.cell 0, VC4.out.cell 0⟩
      have s5 : (w4.setCell ⟨kb, 1, none⟩ (.slice A4 m4 c4)).cell? ⟨kc, 0, none⟩ = some (.string (strB key)) ∧ (w4.setCell ⟨kb, 1, none⟩ (.slice A4 m4 c4)).cell? ⟨vc, 0, none⟩ = some (.string (strB val)) := ⟨(KC4.out.far (p := ⟨kb, 1, none⟩) (Held.ne_ KC4.out H4.out (by decide)) _).cell 0, (VC4.out.far (p := ⟨kb, 1, none⟩) (Held.ne_ VC4.out H4.out (by decide)) _).cell 0⟩
      have n1 := H4.out.cell 1
      have z1 := H4.out.frozen 1
      clear ho4 hg4 hm4 IN
      refine hK.out _ _ s4 (fun hHeld => ?_)
      clear hK K
      refine take_ (i := 11) (v := ?_) 37 rfl rfl (by kernel_rfl) (by kernel_rfl) (by kernel_rfl) (fun _ _ _ h => h) (Or.inl ⟨by rfl, ?_⟩) (by assumption) ?_
      rotate_left
      · (intro wS hSw; (try dsimp only at hSw); go_simp; try with_reducible rfl)
      simp only [Act.put, List.setIfInBounds_toArray]
      refine take_ (i := 12) (v := ?_) 38 rfl rfl (by kernel_rfl) (by kernel_rfl) (by kernel_rfl) (fun _ _ _ h => h) (Or.inl ⟨by rfl, ?_⟩) (by assumption) ?_
      rotate_left
      · (intro wS hSw; (try dsimp only at hSw); go_simp; try with_reducible rfl)
      simp only [Act.put, List.setIfInBounds_toArray]
      refine one_ (i := 13) _ (by kernel_rfl) rfl (fun K hK => ?_)
      go_simp
      refine hK.out _ _ s5 (fun hHeld => ?_)
      clear hK K
      clear s4 s5 s2 s3 c1 c3
      refine wpAnyH_done (by kernel_rfl) ?_ _
      refine NoPanic.normal ?_
      go_wp2_with fail
      go_ret
      exact FIN.out _ rfl
  | true =>
    obtain ⟨hi, hk⟩ := isAt_yes hat
    obtain ⟨g, rfl⟩ : ∃ g, A = some ⟨g, 0, none⟩ := by
      rcases O2.out.2 with ⟨_, h0⟩ | ⟨g, cap, cur, e, _⟩
      · omega
      · injection e with e1 _ _
        exact ⟨g, e1⟩
    obtain ⟨old, hold, hev⟩ : ∃ old, old = ents[i].2 ∧ w2.cell? ⟨g, i * 2 + 1, none⟩ = some (.string (strB old)) := by
      obtain ⟨g', o', e, _, h2⟩ := (EA.out _ O2.out).at_ hi
      injection e with e
      injection e with e1 e2 _
      subst e1 e2
      rw [Nat.zero_add] at h2
      exact ⟨_, rfl, h2⟩
    have eqf := eq_strB (a := old) (b := val) (by rw [hold]; exact (HOK.out _ (List.getElem_mem hi)).vb) HV8.out
    have c1 := s1.2.1
    have s2 : w2.cell? ⟨kb, 1, none⟩ = some (.slice (some ⟨g, 0, none⟩) m c) ∧ w2.cell? ⟨g, i * 2 + 1, none⟩ = some (.string (strB old)) ∧ w2.cell? ⟨vc, 0, none⟩ = some (.string (strB val)) := ⟨s1.2.1, hev, VC2.out.cell 0⟩
    have im : i < m := by rw [HM.out]; exact hi
    have HI := Lib.hid hi
    have HK := Lib.hid hk
    have HOLD := Lib.hid hold
    by_cases hv : old = val
    · have eqt : ((strB old).toList == (strB val).toList) = true := eqf.trans (decide_eq_true hv)
      have PN := Lib.hid (putO_same HI.out HK.out (HOLD.out.symm.trans hv))
      have O3 := Lib.hid (O2.out.below_ ((Below.refl _ _).drew : Below w2.heap.size w2 w2.drew))
      have HV := Lib.hid hv
      clear hat s1 hold hev eqf hk hv
      refine take_ (i := 5) (v := ?_) 7 rfl rfl (by kernel_rfl) (by kernel_rfl) (by kernel_rfl) (fun _ _ _ h => h) (Or.inl ⟨by rfl, ?_⟩) (by assumption) ?_
      rotate_left
      · (intro wS hSw; (try dsimp only at hSw); go_simp; try with_reducible rfl)
      simp only [Act.put, List.setIfInBounds_toArray]
      refine take_ (i := 6) (v := ?_) 13 rfl rfl (by kernel_rfl) (by kernel_rfl) (by kernel_rfl) (fun _ _ _ h => h) (Or.inl ⟨by rfl, ?_⟩) (by assumption) ?_
      rotate_left
      · (intro wS hSw; (try dsimp only at hSw); go_simp; try with_reducible rfl)
      simp only [Act.put, List.setIfInBounds_toArray]
      refine take_ (i := 7) (v := ?_) 14 rfl rfl (by kernel_rfl) (by kernel_rfl) (by kernel_rfl) (fun _ _ _ h => h) (Or.inl ⟨by rfl, ?_⟩) (by assumption) ?_
      rotate_left
      · (intro wS hSw; (try dsimp only at hSw); go_simp; try with_reducible rfl)
      simp only [Act.put, List.setIfInBounds_toArray]
      refine take_ (i := 8) (v := ?_) 5 rfl rfl (by kernel_rfl) (by kernel_rfl) (by kernel_rfl) (fun _ _ _ h => h) (Or.inl ⟨by rfl, ?_⟩) (by assumption) ?_
      rotate_left
      · (intro wS hSw; (try dsimp only at hSw); go_simp; try with_reducible rfl)
      simp only [Act.put, List.setIfInBounds_toArray]
      refine take_ (i := 9) (v := ?_) 6 rfl rfl (by kernel_rfl) (by kernel_rfl) (by kernel_rfl) (fun _ _ _ h => h) (Or.inl ⟨by rfl, ?_⟩) (by assumption) ?_
      rotate_left
      · (intro wS hSw; (try dsimp only at hSw); go_simp; try with_reducible rfl)
      simp only [Act.put, List.setIfInBounds_toArray]
      refine wpAnyH_done (by kernel_rfl) ?_ _
      refine NoPanic.normal ?_
      go_upto_region 5 with fail
      refine wp_region_noPanic ?_
      refine wp_region_held_drew (S := fun w' => w'.cell? ⟨kb, 1, none⟩ = some (.slice (some ⟨g, 0, none⟩) m c) ∧ w'.cell? ⟨g, i * 2 + 1, none⟩ = some (.string (strB old)) ∧ w'.cell? ⟨vc, 0, none⟩ = some (.string (strB val))) (by kernel_rfl) s2 (fun hHeld => ?_)
      refine take_ (i := 0) (v := ?_) 40 rfl rfl (by kernel_rfl) (by kernel_rfl) (by kernel_rfl) (fun _ _ _ h => h) (Or.inl ⟨by rfl, ?_⟩) (by assumption) ?_
      rotate_left
      · (intro wS hSw; (try dsimp only at hSw); go_simp; try with_reducible rfl)
      simp only [Act.put, List.setIfInBounds_toArray]
      refine take_ (i := 1) (v := ?_) 41 rfl rfl (by kernel_rfl) (by kernel_rfl) (by kernel_rfl) (fun _ _ _ h => h) (Or.inl ⟨by rfl, ?_⟩) (by assumption) ?_
      rotate_left
      · (intro wS hSw; (try dsimp only at hSw); go_simp; try with_reducible rfl)
      simp only [Act.put, List.setIfInBounds_toArray]
      refine take_ (i := 2) (v := ?_) 42 rfl rfl (by kernel_rfl) (by kernel_rfl) (by kernel_rfl) (fun _ _ _ h => h) (Or.inl ⟨by rfl, ?_⟩) (by assumption) ?_
      rotate_left
      · (intro wS hSw; (try dsimp only at hSw); go_simp; try with_reducible rfl)
      simp only [Act.put, List.setIfInBounds_toArray]
      refine take_ (i := 3) (v := ?_) 43 rfl rfl (by kernel_rfl) (by kernel_rfl) (by kernel_rfl) (fun _ _ _ h => h) (Or.inl ⟨by rfl, ?_⟩) (by assumption) ?_
      rotate_left
      · (intro wS hSw; (try dsimp only at hSw); go_simp; try with_reducible rfl)
      simp only [Act.put, List.setIfInBounds_toArray]
      refine take_ (i := 4) (v := ?_) 44 rfl rfl (by kernel_rfl) (by kernel_rfl) (by kernel_rfl) (fun _ _ _ h => h) (Or.inl ⟨by rfl, ?_⟩) (by assumption) ?_
      rotate_left
      · (intro wS hSw; (try dsimp only at hSw); go_simp; try with_reducible rfl)
      simp only [Act.put, List.setIfInBounds_toArray]
      refine take_ (i := 5) (v := ?_) 45 rfl rfl (by kernel_rfl) (by kernel_rfl) (by kernel_rfl) (fun _ _ _ h => h) (Or.inl ⟨by rfl, ?_⟩) (by assumption) ?_
      rotate_left
      · (intro wS hSw; (try dsimp only at hSw); go_simp; try with_reducible rfl)
      simp only [Act.put, List.setIfInBounds_toArray]
      refine take_ (i := 6) (v := ?_) 46 rfl rfl (by kernel_rfl) (by kernel_rfl) (by kernel_rfl) (fun _ _ _ h => h) (Or.inl ⟨by rfl, ?_⟩) (by assumption) ?_
      rotate_left
      · (intro wS hSw; (try dsimp only at hSw); go_simp; try with_reducible rfl)
      simp only [Act.put, List.setIfInBounds_toArray]
      refine take_ (i := 7) (v := ?_) 47 rfl rfl (by kernel_rfl) (by kernel_rfl) (by kernel_rfl) (fun _ _ _ h => h) (Or.inl ⟨by rfl, ?_⟩) (by assumption) ?_
      rotate_left
      · (intro wS hSw; (try dsimp only at hSw); go_simp; try with_reducible rfl)
      simp only [Act.put, List.setIfInBounds_toArray]
      refine take_ (i := 8) (v := ?_) 48 rfl rfl (by kernel_rfl) (by kernel_rfl) (by kernel_rfl) (fun _ _ _ h => h) (Or.inl ⟨by rfl, ?_⟩) (by assumption) ?_
      rotate_left
      · (intro wS hSw; (try dsimp only at hSw); go_simp; try with_reducible rfl)
      simp only [Act.put, List.setIfInBounds_toArray]
      refine take_ (i := 9) (v := ?_) 49 rfl rfl (by kernel_rfl) (by kernel_rfl) (by kernel_rfl) (fun _ _ _ h => h) (Or.inl ⟨by rfl, ?_⟩) (by assumption) ?_
      rotate_left
      · (intro wS hSw; (try dsimp only at hSw); go_simp; try with_reducible rfl)
      simp only [Act.put, List.setIfInBounds_toArray]
      refine take_ (i := 10) (v := ?_) 39 rfl rfl (by kernel_rfl) (by kernel_rfl) (by kernel_rfl) (fun _ _ _ h => h) (Or.inl ⟨by rfl, ?_⟩) (by assumption) ?_
      rotate_left
      · (intro wS hSw; (try dsimp only at hSw); go_simp; try with_reducible rfl)
      simp only [Act.put, List.setIfInBounds_toArray]
      refine wpAnyH_done (by kernel_rfl) ?_ _
      refine NoPanic.normal ?_
      go_wp2_with fail
      go_ret
      exact ⟨false, some ⟨g, 0, none⟩, c, ents, rfl, H2.out, O3.out, KpS.under B2.out.drew, PN.out⟩
    · have eqt : ((strB old).toList == (strB val).toList) = false := eqf.trans (decide_eq_false hv)
      have PN := Lib.hid (putO_other SP.out HR.out HI.out HK.out (fun e => hv (HOLD.out.trans e)))
      have HV : Hid (¬ old = val) := hv
      clear hat s1 hold hev eqf hk hv
      refine take_ (i := 5) (v := ?_) 7 rfl rfl (by kernel_rfl) (by kernel_rfl) (by kernel_rfl) (fun _ _ _ h => h) (Or.inl ⟨by rfl, ?_⟩) (by assumption) ?_
      rotate_left
      · (intro wS hSw; (try dsimp only at hSw); go_simp; try with_reducible rfl)
      simp only [Act.put, List.setIfInBounds_toArray]
      refine take_ (i := 6) (v := ?_) 13 rfl rfl (by kernel_rfl) (by kernel_rfl) (by kernel_rfl) (fun _ _ _ h => h) (Or.inl ⟨by rfl, ?_⟩) (by assumption) ?_
      rotate_left
      · (intro wS hSw; (try dsimp only at hSw); go_simp; try with_reducible rfl)
      simp only [Act.put, List.setIfInBounds_toArray]
      refine take_ (i := 7) (v := ?_) 14 rfl rfl (by kernel_rfl) (by kernel_rfl) (by kernel_rfl) (fun _ _ _ h => h) (Or.inl ⟨by rfl, ?_⟩) (by assumption) ?_
      rotate_left
      · (intro wS hSw; (try dsimp only at hSw); go_simp; try with_reducible rfl)
      simp only [Act.put, List.setIfInBounds_toArray]
      refine take_ (i := 8) (v := ?_) 5 rfl rfl (by kernel_rfl) (by kernel_rfl) (by kernel_rfl) (fun _ _ _ h => h) (Or.inl ⟨by rfl, ?_⟩) (by assumption) ?_
      rotate_left
      · (intro wS hSw; (try dsimp only at hSw); go_simp; try with_reducible rfl)
      simp only [Act.put, List.setIfInBounds_toArray]
      refine take_ (i := 9) (v := ?_) 6 rfl rfl (by kernel_rfl) (by kernel_rfl) (by kernel_rfl) (fun _ _ _ h => h) (Or.inl ⟨by rfl, ?_⟩) (by assumption) ?_
      rotate_left
      · (intro wS hSw; (try dsimp only at hSw); go_simp; try with_reducible rfl)
      simp only [Act.put, List.setIfInBounds_toArray]
      refine wpAnyH_done (by kernel_rfl) ?_ _
      refine NoPanic.normal ?_
      go_upto_region 5 with fail
      refine wp_region_noPanic ?_
      refine wp_region_held_drew (S := fun w' => w'.cell? ⟨kb, 1, none⟩ = some (.slice (some ⟨g, 0, none⟩) m c) ∧ w'.cell? ⟨g, i * 2 + 1, none⟩ = some (.string (strB old)) ∧ w'.cell? ⟨vc, 0, none⟩ = some (.string (strB val))) (by kernel_rfl) s2 (fun hHeld => ?_)
      refine take_ (i := 0) (v := ?_) 40 rfl rfl (by kernel_rfl) (by kernel_rfl) (by kernel_rfl) (fun _ _ _ h => h) (Or.inl ⟨by rfl, ?_⟩) (by assumption) ?_
      rotate_left
      · (intro wS hSw; (try dsimp only at hSw); go_simp; try with_reducible rfl)
      simp only [Act.put, List.setIfInBounds_toArray]
      refine take_ (i := 1) (v := ?_) 41 rfl rfl (by kernel_rfl) (by kernel_rfl) (by kernel_rfl) (fun _ _ _ h => h) (Or.inl ⟨by rfl, ?_⟩) (by assumption) ?_
      rotate_left
      · (intro wS hSw; (try dsimp only at hSw); go_simp; try with_reducible rfl)
      simp only [Act.put, List.setIfInBounds_toArray]
      refine take_ (i := 2) (v := ?_) 42 rfl rfl (by kernel_rfl) (by kernel_rfl) (by kernel_rfl) (fun _ _ _ h => h) (Or.inl ⟨by rfl, ?_⟩) (by assumption) ?_
      rotate_left
      · (intro wS hSw; (try dsimp only at hSw); go_simp; try with_reducible rfl)
      simp only [Act.put, List.setIfInBounds_toArray]
      refine take_ (i := 3) (v := ?_) 43 rfl rfl (by kernel_rfl) (by kernel_rfl) (by kernel_rfl) (fun _ _ _ h => h) (Or.inl ⟨by rfl, ?_⟩) (by assumption) ?_
      rotate_left
      · (intro wS hSw; (try dsimp only at hSw); go_simp; try with_reducible rfl)
      simp only [Act.put, List.setIfInBounds_toArray]
      refine take_ (i := 4) (v := ?_) 44 rfl rfl (by kernel_rfl) (by kernel_rfl) (by kernel_rfl) (fun _ _ _ h => h) (Or.inl ⟨by rfl, ?_⟩) (by assumption) ?_
      rotate_left
      · (intro wS hSw; (try dsimp only at hSw); go_simp; try with_reducible rfl)
      simp only [Act.put, List.setIfInBounds_toArray]
      refine take_ (i := 5) (v := ?_) 45 rfl rfl (by kernel_rfl) (by kernel_rfl) (by kernel_rfl) (fun _ _ _ h => h) (Or.inl ⟨by rfl, ?_⟩) (by assumption) ?_
      rotate_left
      · (intro wS hSw; (try dsimp only at hSw); go_simp; try with_reducible rfl)
      simp only [Act.put, List.setIfInBounds_toArray]
      refine take_ (i := 6) (v := ?_) 46 rfl rfl (by kernel_rfl) (by kernel_rfl) (by kernel_rfl) (fun _ _ _ h => h) (Or.inl ⟨by rfl, ?_⟩) (by assumption) ?_
      rotate_left
      · (intro wS hSw; (try dsimp only at hSw); go_simp; try with_reducible rfl)
      simp only [Act.put, List.setIfInBounds_toArray]
      refine take_ (i := 7) (v := ?_) 47 rfl rfl (by kernel_rfl) (by kernel_rfl) (by kernel_rfl) (fun _ _ _ h => h) (Or.inl ⟨by rfl, ?_⟩) (by assumption) ?_
      rotate_left
      · (intro wS hSw; (try dsimp only at hSw); go_simp; try with_reducible rfl)
      simp only [Act.put, List.setIfInBounds_toArray]
      refine take_ (i := 8) (v := ?_) 48 rfl rfl (by kernel_rfl) (by kernel_rfl) (by kernel_rfl) (fun _ _ _ h => h) (Or.inl ⟨by rfl, ?_⟩) (by assumption) ?_
      rotate_left
      · (intro wS hSw; (try dsimp only at hSw); go_simp; try with_reducible rfl)
      simp only [Act.put, List.setIfInBounds_toArray]
      refine take_ (i := 9) (v := ?_) 49 rfl rfl (by kernel_rfl) (by kernel_rfl) (by kernel_rfl) (fun _ _ _ h => h) (Or.inl ⟨by rfl, ?_⟩) (by assumption) ?_
      rotate_left
      · (intro wS hSw; (try dsimp only at hSw); go_simp; try with_reducible rfl)
      simp only [Act.put, List.setIfInBounds_toArray]
      refine take_ (i := 10) (v := ?_) 39 rfl rfl (by kernel_rfl) (by kernel_rfl) (by kernel_rfl) (fun _ _ _ h => h) (Or.inl ⟨by rfl, ?_⟩) (by assumption) ?_
      rotate_left
      · (intro wS hSw; (try dsimp only at hSw); go_simp; try with_reducible rfl)
      simp only [Act.put, List.setIfInBounds_toArray]
      refine wpAnyH_done (by kernel_rfl) ?_ _
      refine NoPanic.normal ?_
      obtain ⟨w3, hw3⟩ : ∃ w3, w3 = w2.drew := ⟨_, rfl⟩
      have U3 : Hid (Below w2.heap.size w2 w3) := by rw [hw3]; exact (Below.refl _ _).drew
      have O3 := Lib.hid (O2.out.below_ U3.out)
      have H3 := Lib.hid (Held.below H2.out U3.out H2.out.lt)
      have VC3 := Lib.hid (Held.below VC2.out U3.out VC2.out.lt)
      have B3 : Hid (Below W.heap.size W w3) := B2.out.trans (U3.out.mono B2.out.size)
      have s3 : w3.cell? ⟨kb, 1, none⟩ = some (.slice (some ⟨g, 0, none⟩) m c) ∧ w3.cell? ⟨vc, 0, none⟩ = some (.string (strB val)) := ⟨by rw [HM.out]; exact H3.out.cell 1, VC3.out.cell 0⟩
      rw [← hw3]
      have HW3 := Lib.hid hw3
      clear hw3 s2 c1
      go_upto_region 2 with fail
      obtain ⟨w4, hw4⟩ : ∃ w4, w4 = w3.drew := ⟨_, rfl⟩
      have U4 : Hid (Below w3.heap.size w3 w4) := by rw [hw4]; exact (Below.refl _ _).drew
      have O4 := Lib.hid (O3.out.below_ U4.out)
      have H4 := Lib.hid (Held.below H3.out U4.out H3.out.lt)
      have VC4 := Lib.hid (Held.below VC3.out U4.out VC3.out.lt)
      have B4 : Hid (Below W.heap.size W w4) := B3.out.trans (U4.out.mono B3.out.size)
      have z4 : w4.frozen? ⟨g, i * 2 + 1, none⟩ = false := by
        rcases O4.out.2 with ⟨e, _⟩ | ⟨g', cap, cur, e, _, hh, _⟩
        · cases e
        · injection e with e _ _
          injection e with e
          injection e with e _ _
          subst e
          exact Held.frozen hh _
      have e4 : w4.cell? ⟨g, i * 2 + 1, none⟩ = some (.string (strB old)) := by
        obtain ⟨g', o', e, _, h2⟩ := (EA.out _ O4.out).at_ hi
        injection e with e
        injection e with e1 e2 _
        subst e1 e2
        rw [Nat.zero_add, ← HOLD.out] at h2
        exact h2
      have gk : Hid (kb ≠ g ∧ vc ≠ g) := by
        rcases O4.out.2 with ⟨e, _⟩ | ⟨g', cap, cur, e, _, hh, _⟩
        · cases e
        · injection e with e _ _
          injection e with e
          injection e with e _ _
          subst e
          exact ⟨Held.ne_ H4.out hh (by decide), Held.ne_ VC4.out hh (by decide)⟩
      have FIN : Hid (∀ w5, w5 = w4.setCell ⟨g, i * 2 + 1, none⟩ (.string (strB val)) → (∃ ch A' c' ents', (Ending.returned (.bool true)) = .returned (.bool ch) ∧ Held w5 kb 79 #[.int .i64 1, .slice A' ents'.length c', .string (strB u)] ∧ OwnEn w5 base (.slice A' ents'.length c') ents' ∧ KpS [77, 79] X W w5 ∧ putO key val ents = if ch then some ents' else none) ∧ w5.cell? ⟨kb, 1, none⟩ = some (.slice (some ⟨g, 0, none⟩) m c) ∧ w5.cell? ⟨vc, 0, none⟩ = some (.string (strB val))) := by
        rintro w5 rfl
        have hf := H4.out.far (p := ⟨g, i * 2 + 1, none⟩) gk.out.1 (.string (strB val))
        have hfv := VC4.out.far (p := ⟨g, i * 2 + 1, none⟩) gk.out.2 (.string (strB val))
        refine ⟨⟨true, some ⟨g, 0, none⟩, c, ents.set i (key, val), rfl, by rw [List.length_set]; exact hf, by rw [List.length_set]; exact O4.out.set_ i key val HI.out HK.out, ?_, PN.out⟩, by rw [HM.out]; exact hf.cell 1, hfv.cell 0⟩
        rcases O4.out.2 with ⟨e, _⟩ | ⟨g', cap, cur, e, hgb, hh, _⟩
        · cases e
        · injection e with e _ _
          injection e with e
          injection e with e _ _
          subst e
          exact (KpS.under B4.out).set_ hh (by simp) (Nat.le_trans hX2 hgb) _ _
      have s4 : w4.cell? ⟨kb, 1, none⟩ = some (.slice (some ⟨g, 0, none⟩) m c) ∧ w4.cell? ⟨vc, 0, none⟩ = some (.string (strB val)) := ⟨by rw [HM.out]; exact H4.out.cell 1, VC4.out.cell 0⟩
      have s5 := (FIN.out _ rfl).2
      have HW4 := Lib.hid hw4
      clear hw4
      refine wp_region_noPanic ?_
      refine wp_region_held_drew (S := fun w' => w'.cell? ⟨kb, 1, none⟩ = some (.slice (some ⟨g, 0, none⟩) m c) ∧ w'.cell? ⟨vc, 0, none⟩ = some (.string (strB val))) (by kernel_rfl) s3 (fun hHeld => ?_)
      refine take_ (i := 0) (v := ?_) 15 rfl rfl (by kernel_rfl) (by kernel_rfl) (by kernel_rfl) (fun _ _ _ h => h) (Or.inl ⟨by rfl, ?_⟩) (by assumption) ?_
      rotate_left
      · (intro wS hSw; (try dsimp only at hSw); go_simp; try with_reducible rfl)
      simp only [Act.put, List.setIfInBounds_toArray]
      refine take_ (i := 1) (v := ?_) 16 rfl rfl (by kernel_rfl) (by kernel_rfl) (by kernel_rfl) (fun _ _ _ h => h) (Or.inl ⟨by rfl, ?_⟩) (by assumption) ?_
      rotate_left
      · (intro wS hSw; (try dsimp only at hSw); go_simp; try with_reducible rfl)
      simp only [Act.put, List.setIfInBounds_toArray]
      refine take_ (i := 2) (v := ?_) 17 rfl rfl (by kernel_rfl) (by kernel_rfl) (by kernel_rfl) (fun _ _ _ h => h) (Or.inl ⟨by rfl, ?_⟩) (by assumption) ?_
      rotate_left
      · (intro wS hSw; (try dsimp only at hSw); go_simp; try with_reducible rfl)
      simp only [Act.put, List.setIfInBounds_toArray]
      refine take_ (i := 3) (v := ?_) 18 rfl rfl (by kernel_rfl) (by kernel_rfl) (by kernel_rfl) (fun _ _ _ h => h) (Or.inl ⟨by rfl, ?_⟩) (by assumption) ?_
      rotate_left
      · (intro wS hSw; (try dsimp only at hSw); go_simp; try with_reducible rfl)
      simp only [Act.put, List.setIfInBounds_toArray]
      refine take_ (i := 4) (v := ?_) 19 rfl rfl (by kernel_rfl) (by kernel_rfl) (by kernel_rfl) (fun _ _ _ h => h) (Or.inl ⟨by rfl, ?_⟩) (by assumption) ?_
      rotate_left
      · (intro wS hSw; (try dsimp only at hSw); go_simp; try with_reducible rfl)
      simp only [Act.put, List.setIfInBounds_toArray]
      refine take_ (i := 5) (v := ?_) 20 rfl rfl (by kernel_rfl) (by kernel_rfl) (by kernel_rfl) (fun _ _ _ h => h) (Or.inl ⟨by rfl, ?_⟩) (by assumption) ?_
      rotate_left
      · (intro wS hSw; (try dsimp only at hSw); go_simp; try with_reducible rfl)
      simp only [Act.put, List.setIfInBounds_toArray]
      refine take_ (i := 6) (v := ?_) 21 rfl rfl (by kernel_rfl) (by kernel_rfl) (by kernel_rfl) (fun _ _ _ h => h) (Or.inl ⟨by rfl, ?_⟩) (by assumption) ?_
      rotate_left
      · (intro wS hSw; (try dsimp only at hSw); go_simp; try with_reducible rfl)
      simp only [Act.put, List.setIfInBounds_toArray]
      refine take_ (i := 7) (v := ?_) 22 rfl rfl (by kernel_rfl) (by kernel_rfl) (by kernel_rfl) (fun _ _ _ h => h) (Or.inl ⟨by rfl, ?_⟩) (by assumption) ?_
      rotate_left
      · (intro wS hSw; (try dsimp only at hSw); go_simp; try with_reducible rfl)
      simp only [Act.put, List.setIfInBounds_toArray]
      rw [← HW4.out]
      refine one_ (i := 8) _ (by kernel_rfl) rfl (fun K hK => ?_)
      go_simp
      refine hK.out _ _ s5 (fun hHeld => ?_)
      clear hK K
      clear s3 s4 s5 e4 z4
      refine wpAnyH_done (by kernel_rfl) ?_ _
      refine NoPanic.normal ?_
      go_wp2_with fail
      go_ret
      exact (FIN.out _ rfl).1
end Go.Proofs.YtnogmgnbhcmajaaDoor
