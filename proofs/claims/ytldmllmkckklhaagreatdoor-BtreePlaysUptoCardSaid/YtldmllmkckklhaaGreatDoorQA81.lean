/-
  btree: Blocks: its closure. · btree: Blocks.
-/
import Derived.Test.YtldmllmkckklhaaGreatDoorQA78
namespace Go.Proofs.YtldmllmkckklhaaGreatDoor
open Go.RowKit Wal

set_option maxRecDepth 100000 in
set_option maxHeartbeats 1600000 in
theorem blocks1_any (w : World) (t p root : Nat) (bs : List Nat) (tb vb : Nat) (v0 : Value) (hto : TreeO w t p root) (ht : Held w tb 26 #[.pointer (some ⟨t, 0, none⟩)]) (hv : Held w vb 36 #[v0])
    (h : ∀ w2, Below w.heap.size w w2 → Calls Tryz.prog 34 #[.pointer (some ⟨t, 0, none⟩), spV root 0 [] []] w2 fun x w' => ∃ v', x = .returned v' ∧ OwnN w' w2.heap.size v' bs ∧ Below w2.heap.size w2 w') :
    Calls Tryz.prog 33 #[.pointer (some ⟨tb, 0, none⟩), .pointer (some ⟨vb, 0, none⟩)] w fun x w' => x = .returned (.tuple #[]) ∧ ∃ v w1, OwnN w1 w.heap.size v bs ∧ Below w.heap.size w w1 ∧ w' = w1.setCell ⟨vb, 0, none⟩ v := by
  obtain ⟨w1, hw1⟩ : ∃ w1, w1 = w.drew := ⟨_, rfl⟩
  have U1 : Hid (Below w.heap.size w w1) := by rw [hw1]; exact (Below.refl _ _).drew
  have TH := Lib.hid (ht.below U1.out ht.lt)
  have VH := Lib.hid (hv.below U1.out hv.lt)
  have TP := Lib.hid (top_any w1 t p root (hto.below U1.out))
  have SC := Lib.hid h
  have s1 : w1.cell? ⟨tb, 0, none⟩ = some (.pointer (some ⟨t, 0, none⟩)) := TH.out.cell 0
  have HW1 := Lib.hid hw1
  clear hto ht hv h hw1
  unfold spV at *
  go_enter Tryz.func33, Tryz.ntmps33
  refine wp_region_noPanic ?_
  refine wp_region_held_drew (S := fun w' => w'.cell? ⟨tb, 0, none⟩ = some (.pointer (some ⟨t, 0, none⟩))) (by kernel_rfl) (by rw [← HW1.out]; exact s1) (fun hHeld => ?_)
  rw [← HW1.out]
  refine take_ (i := 0) (v := ?_) 2 rfl rfl (by kernel_rfl) (by kernel_rfl) (by kernel_rfl) (fun _ _ _ h => h) (Or.inl ⟨by rfl, ?_⟩) (by assumption) ?_
  rotate_left
  · (intro wS hSw; (try dsimp only at hSw); go_simp; try with_reducible rfl)
  simp only [Act.put, List.setIfInBounds_toArray]
  refine take_ (i := 1) (v := ?_) 3 rfl rfl (by kernel_rfl) (by kernel_rfl) (by kernel_rfl) (fun _ _ _ h => h) (Or.inl ⟨by rfl, ?_⟩) (by assumption) ?_
  rotate_left
  · (intro wS hSw; (try dsimp only at hSw); go_simp; try with_reducible rfl)
  simp only [Act.put, List.setIfInBounds_toArray]
  refine one_ (i := 2) _ (by kernel_rfl) rfl (fun K hK => ?_)
  go_simp
  refine TP.out.mono ?_
  rintro x w2 ⟨rfl, hb2⟩
  dsimp only
  have B2 : Hid (Below w.heap.size w w2) := U1.out.trans (hb2.mono U1.out.size)
  have s2 : w2.cell? ⟨tb, 0, none⟩ = some (.pointer (some ⟨t, 0, none⟩)) := (TH.out.below hb2 TH.out.lt).cell 0
  have V2 := Lib.hid (VH.out.below hb2 VH.out.lt)
  have T2 := Lib.hid (TH.out.below hb2 TH.out.lt)
  clear hb2 TP s1
  refine hK.out _ _ s2 (fun hHeld => ?_)
  clear hK K
  refine one_ (i := 3) _ (by kernel_rfl) rfl (fun K hK => ?_)
  go_simp
  refine (SC.out w2 B2.out).mono ?_
  rintro x w3 ⟨v, rfl, hO, U3⟩
  dsimp only
  have V3 := Lib.hid (V2.out.below U3 V2.out.lt)
  have T3 := T2.out.below U3 T2.out.lt
  have s3 : w3.cell? ⟨tb, 0, none⟩ = some (.pointer (some ⟨t, 0, none⟩)) := T3.cell 0
  obtain ⟨A3, m3, c3, rfl⟩ : ∃ A m c, v = .slice A m c := by
    obtain ⟨A, c, e, _⟩ := hO.any
    exact ⟨A, _, c, e⟩
  have O3 := Lib.hid (OwnN.base_ hO B2.out.size)
  have B3 : Hid (Below w.heap.size w w3) := B2.out.trans (U3.mono B2.out.size)
  have n1 := Held.ne_ T3 V3.out (by decide)
  have s4 : (w3.setCell ⟨vb, 0, none⟩ (.slice A3 m3 c3)).cell? ⟨tb, 0, none⟩ = some (.pointer (some ⟨t, 0, none⟩)) := (T3.far (p := ⟨vb, 0, none⟩) n1 _).cell 0
  have v0 := V3.out.cell 0
  have y0 := V3.out.frozen 0
  have l0 := V3.out.lt
  clear hO U3 T3 n1 SC
  refine hK.out _ _ s3 (fun hHeld => ?_)
  clear hK K
  refine one_ (i := 4) _ (by kernel_rfl) rfl (fun K hK => ?_)
  go_simp
  refine hK.out _ _ s4 (fun hHeld => ?_)
  clear hK K
  refine wpAnyH_done (by kernel_rfl) ?_ _
  refine NoPanic.normal ?_
  go_wp2_with fail
  go_end0
  exact ⟨rfl, _, w3, O3.out, B3.out, rfl⟩
end Go.Proofs.YtldmllmkckklhaaGreatDoor

namespace Go.Proofs.YtldmllmkckklhaaGreatDoor
open Go.RowKit Wal

/-- What slices.Sort does to a row of ints of the call's own. -/
def SortOk : Prop := ∀ (w : World) (base : Nat) (A : Option Addr) (c : Nat) (bs : List Nat), OwnN w base (.slice A bs.length c) bs → bs.length ≤ 50000 →
  Calls Tryz.prog 36 #[.slice A bs.length c] w fun x w' => x = .returned (.tuple #[]) ∧ ∃ bs' : List Nat, bs'.Perm bs ∧ bs'.Pairwise (· ≤ ·) ∧ OwnN w' base (.slice A bs.length c) bs' ∧ KpS [3] base w w'
/-- Blocks' answer. -/
def BlocksA (bs : List Nat) (w : World) (x : Ending) (w' : World) : Prop :=
  ∃ v bs', x = .returned (.tuple #[v, .int .i64 0]) ∧ bs'.Perm bs ∧ bs'.Pairwise (· ≤ ·) ∧ OwnN w' w.heap.size v bs' ∧ Below w.heap.size w w'
set_option maxRecDepth 100000 in
set_option maxHeartbeats 1600000 in
theorem tblocks_any (hsort : SortOk) (B : Nat) (w : World) (t p root n : Nat) (f : Nat → Option KB) (es : List En) (bs : List Nat) (h : LiveT B w t p root n f es bs) (deep : Deep f root es bs) (hl : bs.length ≤ 50000) :
    Calls Tryz.prog 13 #[.pointer (some ⟨t, 0, none⟩)] w (BlocksA bs w) := by
  obtain ⟨q, hq⟩ : ∃ q, q = w.heap.size := ⟨_, rfl⟩
  obtain ⟨w2, hw2⟩ : ∃ w2, w2 = (w.alloc (.cells #[.pointer (some ⟨t, 0, none⟩)] 26)).alloc (.cells #[.slice none 0 0] 36) := ⟨_, rfl⟩
  have TH : Held w2 q 26 #[.pointer (some ⟨t, 0, none⟩)] := by rw [hw2]; exact (Held.new _ _ _ hq).alloc _
  have VH : Held w2 (q + 1) 36 #[.slice none 0 0] := by rw [hw2]; exact Held.new _ _ _ (by rw [hq]; simp)
  have BW : Below w.heap.size w w2 := by rw [hw2]; exact ((Below.refl _ _).alloc (Nat.le_refl _) _).alloc (by simp) _
  have H2 := h.under BW
  obtain ⟨C, hC⟩ : ∃ C, C = w2.heap.size := ⟨_, rfl⟩
  obtain ⟨w4, hw4⟩ : ∃ w4, w4 = w2.alloc (.cells #[.int .i64 0, .bool false] 78) := ⟨_, rfl⟩
  have U4 : Below w2.heap.size w2 w4 := by rw [hw4]; exact (Below.refl _ _).alloc (Nat.le_refl _) _
  have N4 : Held w4 C 78 #[.int .i64 0, .bool false] := by rw [hw4]; exact Held.new _ _ _ hC
  have B4 : Below w.heap.size w w4 := BW.trans (U4.mono BW.size)
  have CK := check_ok w2 t p root H2.tree true
  simp only [if_true] at CK
  have CK := Lib.hid CK
  have H4 := h.under B4
  have TH4 := TH.below U4 TH.lt
  have VH4 := VH.below U4 VH.lt
  have AT : Hid (root ≠ 0 → Calls Tryz.prog 32 #[.func (.func 33) #[] #[.pointer (some ⟨q, 0, none⟩), .pointer (some ⟨q + 1, 0, none⟩)]] w2 fun e w6 => ∃ v w1, OwnN w1 w.heap.size v bs ∧ Below w4.heap.size w4 w1 ∧ e = .returned (.agg #[.int .i64 0, .bool false]) ∧ w6 = ((w1.setCell ⟨q + 1, 0, none⟩ v).setCell ⟨C, 0, none⟩ (.int .i64 0)).setCell ⟨C, 1, none⟩ (.bool false)) := fun hroot => by
    obtain ⟨⟨d, ha⟩, hr, hn⟩ := tree_at.1 H4.lies
    have S1 := blocks1_any w4 t p root bs q (q + 1) _ H4.tree TH4 VH4 (fun w5 hb =>
      blocks_any B t p root n f d w5 (H4.tree.below hb) (H4.mem.under hb) root es bs 0 [] [] ⟨ha, by have := deep d ha; omega, H4.ok, hr, .inl rfl, .inl rfl, .inl rfl, by simp⟩ hroot hl)
    refine (attempt_any 33 #[.pointer (some ⟨q, 0, none⟩), .pointer (some ⟨q + 1, 0, none⟩)] w2 (fun w5 => ∃ v w1, OwnN w1 w.heap.size v bs ∧ Below w4.heap.size w4 w1 ∧ w5 = w1.setCell ⟨q + 1, 0, none⟩ v) (fun _ _ _ => False) (fun _ => rfl) (by
      rw [← hw4, ← hC]
      refine S1.mono ?_
      rintro x w5 ⟨rfl, v, w1, h1, h2, rfl⟩
      exact ⟨(N4.below h2 N4.lt).far (p := ⟨q + 1, 0, none⟩) (Held.ne_ N4 VH4 (by decide)) _, .inl ⟨rfl, v, w1, OwnN.base_ h1 B4.size, h2, rfl⟩⟩)).mono ?_
    rw [← hC]
    rintro x w6 ⟨w5, ⟨⟨v, w1, h1, h2, rfl⟩, rfl, rfl⟩ | ⟨_, _, _, h, _⟩⟩
    · exact ⟨v, w1, h1, h2, rfl, rfl⟩
    · exact h.elim
  have QQ : Hid (w.heap.size ≤ q ∧ w.heap.size ≤ C) := ⟨by omega, by rw [hC]; exact BW.size⟩
  have BZ : Hid (root = 0 → bs = []) := fun e => by
    rcases h.lies with ⟨_, _, hb⟩ | ⟨d, t, _⟩
    · exact hb
    · have := t.top.1
      omega
  have t0 := TH.cell 0
  have tl := TH.lt
  have r1 := H2.tree.cell 1
  have rl := H2.tree.lt
  have HW2 := Lib.hid hw2
  have HQ := Lib.hid hq
  have VV := Lib.hid VH
  have V4 := Lib.hid VH4
  have N44 := Lib.hid N4
  have B22 := Lib.hid BW
  have B44 := Lib.hid B4
  have SRT := Lib.hid hsort
  have HLN : Hid (bs.length ≤ 50000) := hl
  clear hq hw2 hw4 hC U4 N4 TH VH TH4 VH4 H2 H4 B4 BW h deep hl hsort
  go_enter Tryz.func13, Tryz.ntmps13
  go_upto_region 1 with fail
  rw [← HQ.out, ← HW2.out]
  go_wp2_with fail
  refine CK.out.mono ?_
  rintro x w3 ⟨rfl, rfl⟩
  by_cases hp : root = 0
  · have r0 : (root : Int) = 0 := by omega
    have E0 := Lib.hid (BZ.out hp)
    rw [r0] at r1
    clear AT CK hp r0
    have v0 := VV.out.cell 0
    have yv := VV.out.frozen 0
    have lv := VV.out.lt
    have VB : Held (w2.setCell ⟨q + 1, 0, none⟩ (.slice none 0 0)) (q + 1) 36 #[.slice none 0 0] := VV.out.set_ 0 _
    have VBB := Lib.hid VB
    clear VB
    go_wp2_with fail
    refine bodyPost_ret (res_cellB _ _ 3 2 36 _ _ _ Tryz.results13 rfl rfl (load_one (Tryz.isAgg36 _) VBB.out)) rfl ⟨_, [], rfl, by rw [E0.out], List.Pairwise.nil, OwnN.nil _ _, ?_⟩
    have h1 := QQ.out.1
    exact B22.out.setCell (p := ⟨q + 1, 0, none⟩) (by show _ ≤ q + 1; omega) _
  · have r0 : ¬ (root : Int) = 0 := by omega
    have A2 := Lib.hid (AT.out hp)
    clear AT CK hp
    go_wp2_with fail
    refine A2.out.mono ?_
    rintro x w6 ⟨v, w1, hO, hB, rfl, hw6⟩
    obtain ⟨A3, c3, rfl, _, _⟩ := hO.any
    have h1 := QQ.out.1
    have V1 := V4.out.below hB V4.out.lt
    have N1 := N44.out.below hB N44.out.lt
    have n1 : q + 1 ≠ C := Held.ne_ V1 N1 (by decide)
    have V6 : Held w6 (q + 1) 36 #[.slice A3 bs.length c3] := by rw [hw6]; exact ((V1.set_ 0 (.slice A3 bs.length c3)).far (p := ⟨C, 0, none⟩) n1 _).far (p := ⟨C, 1, none⟩) n1 _
    have B6 : Below w.heap.size w w6 := by
      rw [hw6]
      exact (((B44.out.trans (hB.mono B44.out.size)).setCell (p := ⟨q + 1, 0, none⟩) (by show _ ≤ q + 1; omega) _).setCell (p := ⟨C, 0, none⟩) QQ.out.2 _).setCell (p := ⟨C, 1, none⟩) QQ.out.2 _
    have KS : KpS [36, 78] 0 w1 w6 := by
      rw [hw6]
      have q1 := (KpS.refl [36, 78] 0 w1).set_ V1 (by simp) (Nat.zero_le _) 0 (.slice A3 bs.length c3)
      have q2 := q1.set_ (N1.far (p := ⟨q + 1, 0, none⟩) n1.symm _) (by simp) (Nat.zero_le _) 0 (.int .i64 0)
      exact q2.set_ ((N1.far (p := ⟨q + 1, 0, none⟩) n1.symm _).set_ 0 _) (by simp) (Nat.zero_le _) 1 (.bool false)
    have O6 : OwnN w6 w.heap.size (.slice A3 bs.length c3) bs := KS.row hO (by decide)
    obtain ⟨mb, hmb⟩ : ∃ mb, mb = w6.heap.size := ⟨_, rfl⟩
    obtain ⟨w7, hw7⟩ : ∃ w7, w7 = w6.alloc (.cells #[.int .i64 0, .bool false] 78) := ⟨_, rfl⟩
    have U7 : Below w6.heap.size w6 w7 := by rw [hw7]; exact (Below.refl _ _).alloc (Nat.le_refl _) _
    have N7 : Held w7 mb 78 #[.int .i64 0, .bool false] := by rw [hw7]; exact Held.new _ _ _ hmb
    have V7 := V6.below U7 V6.lt
    have B7 : Below w.heap.size w w7 := B6.trans (U7.mono B6.size)
    have O7 := O6.below_ U7
    have ST := Lib.hid (SRT.out w7 w.heap.size A3 c3 bs O7 HLN.out)
    have VV7 := Lib.hid V7
    have NN7 := Lib.hid N7
    have BB7 := Lib.hid B7
    obtain ⟨ml, hml⟩ : ∃ x, x = bs.length := ⟨_, rfl⟩
    rw [← hml] at ST V7 VV7
    have v7 := V7.cell 0
    have lv7 := V7.lt
    have HW7 := Lib.hid hw7
    have HMB := Lib.hid hmb
    clear hO hB hw6 V1 N1 n1 V6 B6 KS O6 hmb hw7 U7 N7 V7 B7 O7 A2 hml
    go_upto_region 5 with fail
    rw [← HW7.out, ← HMB.out]
    go_wp2_with fail
    refine ST.out.mono ?_
    rintro x w9 ⟨rfl, bs', hpm, hpw, hO9, hK9⟩
    have V9 := hK9.held VV7.out (by decide)
    have N9 := hK9.held NN7.out (by decide)
    have B9 : Below w.heap.size w w9 := BB7.out.trans (hK9.below BB7.out.size)
    have UD : Below w9.heap.size w9 w9.drew := (Below.refl _ _).drew
    obtain ⟨w8, hw8⟩ : ∃ w8, w8 = w9.drew := ⟨_, rfl⟩
    rw [← hw8] at UD
    have VD := V9.below UD V9.lt
    have ND := N9.below UD N9.lt
    have BD : Below w.heap.size w w8 := B9.trans (UD.mono B9.size)
    have OD := hO9.below_ UD
    have NM : mb ≠ q + 1 := Held.ne_ ND VD (by decide)
    have VDD := Lib.hid VD
    have BDD := Lib.hid BD
    have s7 : w8.cell? ⟨q + 1, 0, none⟩ = some (.slice A3 ml c3) ∧ w8.cell? ⟨mb, 0, none⟩ = some (.int .i64 0) := ⟨VD.cell 0, ND.cell 0⟩
    have VB : Held (w8.setCell ⟨q + 1, 0, none⟩ (.slice A3 ml c3)) (q + 1) 36 #[.slice A3 ml c3] := VD.set_ 0 _
    have s8 : (w8.setCell ⟨q + 1, 0, none⟩ (.slice A3 ml c3)).cell? ⟨q + 1, 0, none⟩ = some (.slice A3 ml c3) ∧ (w8.setCell ⟨q + 1, 0, none⟩ (.slice A3 ml c3)).cell? ⟨mb, 0, none⟩ = some (.int .i64 0) := ⟨VB.cell 0, (ND.far (p := ⟨q + 1, 0, none⟩) NM _).cell 0⟩
    have VBB := Lib.hid VB
    have FIN : Hid (bs'.Perm bs ∧ bs'.Pairwise (· ≤ ·) ∧ OwnN (w8.setCell ⟨q + 1, 0, none⟩ (.slice A3 ml c3)) w.heap.size (.slice A3 ml c3) bs') := ⟨hpm, hpw, by
      exact ((KpS.refl [36] 0 w8).set_ VD (by simp) (Nat.zero_le _) 0 _).row OD (by decide)⟩
    have HW8 := Lib.hid hw8
    clear hpm hpw hO9 hK9 V9 N9 B9 UD VD ND BD OD NM VB hw8 ST v7 lv7
    go_upto_region 6 with fail
    have yv := VDD.out.frozen 0
    have lv := VDD.out.lt
    refine wp_region_noPanic ?_
    refine wp_region_held_drew (S := fun w' => w'.cell? ⟨q + 1, 0, none⟩ = some (.slice A3 ml c3) ∧ w'.cell? ⟨mb, 0, none⟩ = some (.int .i64 0)) (by kernel_rfl) (by rw [← HW8.out]; exact s7) (fun hHeld => ?_)
    rw [← HW8.out]
    refine take_ (i := 0) (v := ?_) 22 rfl rfl (by kernel_rfl) (by kernel_rfl) (by kernel_rfl) (fun _ _ _ h => h) (Or.inl ⟨by rfl, ?_⟩) (by assumption) ?_
    rotate_left
    · (intro wS hSw; (try dsimp only at hSw); go_simp; try with_reducible rfl)
    simp only [Act.put, List.setIfInBounds_toArray]
    refine take_ (i := 1) (v := ?_) 23 rfl rfl (by kernel_rfl) (by kernel_rfl) (by kernel_rfl) (fun _ _ _ h => h) (Or.inl ⟨by rfl, ?_⟩) (by assumption) ?_
    rotate_left
    · (intro wS hSw; (try dsimp only at hSw); go_simp; try with_reducible rfl)
    simp only [Act.put, List.setIfInBounds_toArray]
    refine take_ (i := 2) (v := ?_) 24 rfl rfl (by kernel_rfl) (by kernel_rfl) (by kernel_rfl) (fun _ _ _ h => h) (Or.inl ⟨by rfl, ?_⟩) (by assumption) ?_
    rotate_left
    · (intro wS hSw; (try dsimp only at hSw); go_simp; try with_reducible rfl)
    simp only [Act.put, List.setIfInBounds_toArray]
    refine one_ (i := 3) _ (by kernel_rfl) rfl (fun K hK => ?_)
    go_simp
    refine hK.out _ _ s8 (fun hHeld => ?_)
    clear hK K
    refine take_ (i := 4) (v := ?_) 3 rfl rfl (by kernel_rfl) (by kernel_rfl) (by kernel_rfl) (fun _ _ _ h => h) (Or.inl ⟨by rfl, ?_⟩) (by assumption) ?_
    rotate_left
    · (intro wS hSw; (try dsimp only at hSw); go_simp; try with_reducible rfl)
    simp only [Act.put, List.setIfInBounds_toArray]
    refine wpAnyH_done (by kernel_rfl) ?_ _
    refine NoPanic.normal ?_
    go_wp2_with fail
    refine bodyPost_ret (res_cellB _ _ 3 2 36 _ _ _ Tryz.results13 rfl rfl (load_one (Tryz.isAgg36 _) VBB.out)) rfl ⟨_, bs', rfl, FIN.out.1, FIN.out.2.1, FIN.out.2.2, ?_⟩
    have h1 := QQ.out.1
    exact BDD.out.setCell (p := ⟨q + 1, 0, none⟩) (by show _ ≤ q + 1; omega) _
end Go.Proofs.YtldmllmkckklhaaGreatDoor
