/-
  btree: a change under way: join. · btree: a change under way: renew, at a leaf. · btree: a node whose kid has been renewed, alone or with the one beside it: in plain words.
-/
import Derived.Test.YtnogmgnbhcmajaaDoorQA41
namespace Go.Proofs.YtnogmgnbhcmajaaDoor
open Go.RowKit Wal

/-- What join tells: the kid's entries with those of the one beside it. -/
def JoinE (B C : Nat) (w : World) (cb t p root n : Nat) (f : Nat → Option KB) (key : List Nat) (ed tv : Value) (taken old : List Nat) (d sb : Nat) (ses : List En) (sbs : List Nat) (kb : Nat) (fr to_ : Int) (cat : List En → List En) (x : Ending) (w' : World) : Prop :=
  ∃ lents bs0 ov' v' w1, x = .returned (.tuple #[.int .i64 fr, .int .i64 to_]) ∧ w' = w1.setCell ⟨kb, 1, none⟩ v' ∧ Ents f d lents ses bs0 ∧ sbs = sb :: bs0 ∧ OwnEn w1 w.heap.size v' (cat lents) ∧ Chg B C w1 cb t p root n f key ed tv ov' taken (old ++ [sb]) ∧ KpC B C w w1
set_option maxRecDepth 100000 in
set_option maxHeartbeats 6400000 in
theorem join_left (B C : Nat) (w : World) (cb t p root n : Nat) (f : Nat → Option KB) (key : List Nat) (ed tv ov : Value) (taken old : List Nat) (h : Chg B C w cb t p root n f key ed tv ov taken old) (hC : C ≤ w.heap.size) (few : old.length ≤ 80000)
    (d : Nat) (hd : d ≤ 199) (ents : List En) (base : Nat) (A : Option Addr) (c : Nat) (u : List Nat) (ho : OwnEn w base (.slice A ents.length c) ents) (hl : ents.length ≤ 1000) (i : Nat) (hi : 0 < i) (hi2 : i - 1 < ents.length)
    (sb : Nat) (hsb : ents[i - 1].2 = pk sb) (h0 : sb ≠ 0) (h4 : sb ≤ 4096) (ses : List En) (sbs : List Nat) (hsp : SpotOk f d sb ses sbs (d + 1) ents[i - 1].1 (nextU ents (i - 1) u))
    (kb bk : Nat) (kents : List En) (kA : Option Addr) (kc : Nat) (D : Int) (uk : List Nat) (hk : Held w kb 79 #[.int .i64 D, .slice kA kents.length kc, .string (strB uk)]) (hko : OwnEn w bk (.slice kA kents.length kc) kents) (hkl : 0 < kents.length) (hkl2 : kents.length ≤ 500) :
    Calls Tryd.prog 60 #[.pointer (some ⟨cb, 0, none⟩), noV (d + 1 + 1) A ents.length c u, .int .i64 (i : Int), .pointer (some ⟨kb, 0, none⟩)] w (JoinE B C w cb t p root n f key ed tv taken old d sb ses sbs kb ((i : Int) - 1) ((i : Int) + 1) fun lents => lents ++ kents) := by
  have HO := Lib.hid ho
  have EA : Hid (∀ W, OwnEn W base (.slice A ents.length c) ents → EAt W A ents) := fun W hW => by
    obtain ⟨A', c', e, _, h1⟩ := hW.any
    injection e with e1 _ _
    subst e1
    exact h1
  have KE : Hid (∀ W, OwnEn W bk (.slice kA kents.length kc) kents → EAt W kA kents) := fun W hW => by
    obtain ⟨A', c', e, _, h1⟩ := hW.any
    injection e with e1 _ _
    subst e1
    exact h1
  have SP := Lib.hid hsp
  have H := Lib.hid h
  have HK := Lib.hid hk
  have KO := Lib.hid hko
  have KD := Lib.hid (fun W (hW : EAt W A ents) => kid_any W (d + 1 + 1) (by omega) (by omega) u A c ents hW (by omega) (i - 1) hi2 sb hsb h4)
  rw [show d + 1 + 1 - 1 = d + 1 by omega] at KD
  have RD := Lib.hid (fun W (hW : Chg B C W cb t p root n f key ed tv ov taken old) (hC : C ≤ W.heap.size) => chread_any B C W cb t p root n f key ed tv ov taken old hW hC few d sb ses sbs (d + 1) ents[i - 1].1 (nextU ents (i - 1) u) hsp)
  obtain ⟨kx, hkx⟩ : ∃ kx, kx = ents[i - 1].1 := ⟨_, rfl⟩
  obtain ⟨ux, hux⟩ : ∃ ux, ux = nextU ents (i - 1) u := ⟨_, rfl⟩
  rw [← hkx, ← hux] at KD RD
  obtain ⟨D2, hD2⟩ : ∃ D2 : Int, D2 = ((d + 1 + 1 : Nat) : Int) := ⟨_, rfl⟩
  unfold noV spV at *
  rw [← hD2] at KD ⊢
  obtain ⟨nb, hnb⟩ : ∃ nb, nb = w.heap.size := ⟨_, rfl⟩
  obtain ⟨w1, hw1⟩ : ∃ w1, w1 = w.alloc (.cells #[.int .i64 D2, .slice A ents.length c, .string (strB u)] 79) := ⟨_, rfl⟩
  have U1 : Hid (Below w.heap.size w w1) := by rw [hw1]; exact (Below.refl _ _).alloc (Nat.le_refl _) _
  have N1 : Hid (Held w1 nb 79 #[.int .i64 D2, .slice A ents.length c, .string (strB u)]) := by rw [hw1]; exact Held.new _ _ _ hnb
  have HW1 := Lib.hid hw1
  have HNB := Lib.hid hnb
  have E1 := Lib.hid (EA.out _ (ho.below_ U1.out))
  have H1 := Lib.hid (h.under U1.out)
  have n0 := N1.out.cell 0
  have n1 := N1.out.cell 1
  have n2 := N1.out.cell 2
  have nl := N1.out.lt
  have H0 : Hid (sb ≠ 0) := h0
  have FL : Hid (0 < kents.length ∧ kents.length ≤ 500) := ⟨hkl, hkl2⟩
  have WI : Hid ((i : Int) ≤ 1000) := by show _ ≤ _; omega
  have i0 : (0 : Int) < (i : Int) := by omega
  rw [show ((i - 1 : Nat) : Int) = (i : Int) - 1 by omega] at KD
  clear ho hsp h hk hko hkx hux hD2 hw1 hnb few hsb h0 h4 hkl hkl2
  go_enter Tryd.func60, Tryd.ntmps60
  go_upto_region 1 with fail
  rw [← HW1.out, ← HNB.out]
  go_wp2_with fail
  refine (KD.out _ E1.out).mono ?_
  rintro x w2 ⟨rfl, hb2⟩
  have B2 : Hid (Below w.heap.size w w2) := U1.out.trans (hb2.mono U1.out.size)
  have H2 := Lib.hid (H.out.under B2.out)
  clear hb2 KD n0 n1 n2 nl
  go_wp2_with fail
  refine (RD.out _ H2.out (Nat.le_trans hC B2.out.size)).mono ?_
  rintro x w3 ⟨lents, v3, bs0, ov3, rfl, ho3, hE3, hbs3, hC3, hK3⟩
  obtain ⟨A3, c3, rfl, _, hEA3⟩ := ho3.any
  have B3 := Lib.hid (KpC.under (B := B) (C := C) B2.out)
  have K3 := Lib.hid (B3.out.trans hK3)
  rw [if_neg H0.out] at hC3
  have HE := Lib.hid (And.intro hE3 (hbs3 H0.out))
  have LF : Hid (lents.length ≤ 500) := by
    have h1 := few_ents (hE3.nd.ok SP.out.ok)
    have h2 := hE3.sizes
    show _ ≤ _
    omega
  obtain ⟨D1, hD1⟩ : ∃ D1 : Int, D1 = ((d + 1 : Nat) : Int) := ⟨_, rfl⟩
  rw [← hD1]
  obtain ⟨lb, hlb⟩ : ∃ lb, lb = w3.heap.size := ⟨_, rfl⟩
  obtain ⟨w4, hw4⟩ : ∃ w4, w4 = w3.alloc (.cells #[.int .i64 D1, .slice A3 lents.length c3, .string (strB ux)] 79) := ⟨_, rfl⟩
  have U4 : Hid (Below w3.heap.size w3 w4) := by rw [hw4]; exact (Below.refl _ _).alloc (Nat.le_refl _) _
  have L4 : Hid (Held w4 lb 79 #[.int .i64 D1, .slice A3 lents.length c3, .string (strB ux)]) := by rw [hw4]; exact Held.new _ _ _ hlb
  have C4 := Lib.hid (hC3.under U4.out)
  have K4 : Hid (KpC B C w w4) := K3.out.trans (KpC.under U4.out)
  have KB4 := Lib.hid (K4.out.held HK.out (by decide) (fun e => absurd e (by decide)))
  have KE4 := Lib.hid (KE.out _ (K4.out.en KO.out))
  have LE4 := Lib.hid (hEA3.below U4.out)
  have NE : Hid (lb ≠ kb) := fun e => by
    have h1 := (K3.out.held HK.out (by decide) (fun e => absurd e (by decide))).lt
    omega
  have HW4 := Lib.hid hw4
  have HLB := Lib.hid hlb
  clear ho3 hE3 hbs3 hC3 hK3 hEA3 RD hD1 hw4 hlb
  obtain ⟨m3, hm3⟩ : ∃ m, m = lents.length := ⟨_, rfl⟩
  obtain ⟨mk, hmk⟩ : ∃ m, m = kents.length := ⟨_, rfl⟩
  obtain ⟨vb, hvb⟩ : ∃ vb, vb = w4.heap.size := ⟨_, rfl⟩
  obtain ⟨w5, hw5⟩ : ∃ w5, w5 = (w4.alloc (.cells #[.slice A3 m3 c3, .slice kA mk kc] 74)).drew := ⟨_, rfl⟩
  have U5 : Hid (Below w4.heap.size w4 w5) := by rw [hw5]; exact ((Below.refl _ _).alloc (Nat.le_refl _) _).drew
  have C5 := Lib.hid (C4.out.under U5.out)
  have V5 : Hid (TwoEn w5 vb A3 lents.length c3 kA kents.length kc) := by
    rw [hw5, hm3, hmk]
    exact Held.new w4 _ _ hvb
  have CO := Lib.hid (concat_any w5 vb A3 c3 kA kc lents kents V5.out (LE4.out.below U5.out) (KE4.out.below U5.out) (by have := FL.out; omega) LF.out FL.out.2)
  have KB5 := Lib.hid (Held.below KB4.out U5.out KB4.out.lt)
  have L5 := Lib.hid (Held.below L4.out U5.out L4.out.lt)
  have s4 := L4.out.cell 1
  have s5 := L5.out.cell 1
  have k4 := KB4.out.cell 1
  have K5 : Hid (KpC B C w w5) := K4.out.trans (KpC.under U5.out)
  have HW5 := Lib.hid hw5
  have HVB := Lib.hid hvb
  have HM3 := Lib.hid hm3
  have HMK := Lib.hid hmk
  rw [← hm3] at s4 s5
  rw [← hmk] at k4
  rw [← hm3] at HW4 ⊢
  clear hw5 hvb hm3 hmk
  go_upto_region 3 with fail
  rw [← HW4.out, ← HLB.out]
  refine wp_region_noPanic ?_
  refine wp_region_held_drew (S := fun w' => w'.cell? ⟨lb, 1, none⟩ = some (.slice A3 m3 c3)) (by kernel_rfl) s4 (fun hHeld => ?_)
  refine take_ (i := 0) (v := ?_) 20 rfl rfl (by kernel_rfl) (by kernel_rfl) (by kernel_rfl) (fun _ _ _ h => h) (Or.inl ⟨by rfl, ?_⟩) (by assumption) ?_
  rotate_left
  · (intro wS hSw; (try dsimp only at hSw); go_simp; try with_reducible rfl)
  simp only [Act.put, List.setIfInBounds_toArray]
  refine take_ (i := 1) (v := ?_) 21 rfl rfl (by kernel_rfl) (by kernel_rfl) (by kernel_rfl) (fun _ _ _ h => h) (Or.inl ⟨by rfl, ?_⟩) (by assumption) ?_
  rotate_left
  · (intro wS hSw; (try dsimp only at hSw); go_simp; try with_reducible rfl)
  simp only [Act.put, List.setIfInBounds_toArray]
  refine take_ (i := 2) (v := ?_) 22 rfl rfl (by kernel_rfl) (by kernel_rfl) (by kernel_rfl) (fun _ _ _ h => h) (Or.inl ⟨by rfl, ?_⟩) (by assumption) ?_
  rotate_left
  · (intro wS hSw; (try dsimp only at hSw); go_simp; try with_reducible rfl)
  simp only [Act.put, List.setIfInBounds_toArray]
  refine take_ (i := 3) (v := ?_) 23 rfl rfl (by kernel_rfl) (by kernel_rfl) (by kernel_rfl) (fun _ _ _ h => h) (Or.inl ⟨by rfl, ?_⟩) (by assumption) ?_
  rotate_left
  · (intro wS hSw; (try dsimp only at hSw); go_simp; try with_reducible rfl)
  simp only [Act.put, List.setIfInBounds_toArray]
  refine take_ (i := 4) (v := ?_) 24 rfl rfl (by kernel_rfl) (by kernel_rfl) (by kernel_rfl) (fun _ _ _ h => h) (Or.inl ⟨by rfl, ?_⟩) (by assumption) ?_
  rotate_left
  · (intro wS hSw; (try dsimp only at hSw); go_simp; try with_reducible rfl)
  simp only [Act.put, List.setIfInBounds_toArray]
  refine take_ (i := 5) (v := ?_) 25 rfl rfl (by kernel_rfl) (by kernel_rfl) (by kernel_rfl) (fun _ _ _ h => h) (Or.inl ⟨by rfl, ?_⟩) (by assumption) ?_
  rotate_left
  · (intro wS hSw; (try dsimp only at hSw); go_simp; try with_reducible rfl)
  simp only [Act.put, List.setIfInBounds_toArray]
  refine one_ (i := 6) _ (by kernel_rfl) rfl (fun K hK => ?_)
  go_simp
  refine hK.out _ _ s4 (fun hHeld => ?_)
  clear hK K
  refine one_ (i := 7) _ (by kernel_rfl) rfl (fun K hK => ?_)
  go_simp
  rw [← HW5.out, ← HVB.out]
  refine hK.out _ _ s5 (fun hHeld => ?_)
  clear hK K
  refine one_ (i := 8) _ (by kernel_rfl) rfl (fun K hK => ?_)
  go_simp
  refine CO.out.mono ?_
  rintro x w6 ⟨v6, rfl, ho6, hb6⟩
  dsimp only
  obtain ⟨A6, m6, c6, rfl⟩ : ∃ A m c, v6 = .slice A m c := by
    obtain ⟨A, c, e, _⟩ := ho6.any
    exact ⟨A, _, c, e⟩
  have KB6 := Lib.hid (Held.below KB5.out hb6 KB5.out.lt)
  have L6 := Lib.hid (Held.below L5.out hb6 L5.out.lt)
  have C6 := Lib.hid (C5.out.under hb6)
  have K6 : Hid (KpC B C w w6) := K5.out.trans (KpC.under hb6)
  have O6 := Lib.hid (ho6.base_ K5.out.size)
  have s6 := L6.out.cell 1
  rw [← HM3.out] at s6
  have k6 := KB6.out.cell 1
  have z6 := KB6.out.frozen 1
  have s7 : (w6.setCell ⟨kb, 1, none⟩ (.slice A6 m6 c6)).cell? ⟨lb, 1, none⟩ = some (.slice A3 m3 c3) := by
    have := (L6.out.far (p := ⟨kb, 1, none⟩) NE.out (.slice A6 m6 c6)).cell 1
    rw [this, HM3.out]
    rfl
  clear ho6 hb6 CO
  refine hK.out _ _ s6 (fun hHeld => ?_)
  clear hK K
  refine take_ (i := 9) (v := ?_) 29 rfl rfl (by kernel_rfl) (by kernel_rfl) (by kernel_rfl) (fun _ _ _ h => h) (Or.inl ⟨by rfl, ?_⟩) (by assumption) ?_
  rotate_left
  · (intro wS hSw; (try dsimp only at hSw); go_simp; try with_reducible rfl)
  simp only [Act.put, List.setIfInBounds_toArray]
  refine take_ (i := 10) (v := ?_) 30 rfl rfl (by kernel_rfl) (by kernel_rfl) (by kernel_rfl) (fun _ _ _ h => h) (Or.inl ⟨by rfl, ?_⟩) (by assumption) ?_
  rotate_left
  · (intro wS hSw; (try dsimp only at hSw); go_simp; try with_reducible rfl)
  simp only [Act.put, List.setIfInBounds_toArray]
  refine one_ (i := 11) _ (by kernel_rfl) rfl (fun K hK => ?_)
  go_simp
  refine hK.out _ _ s7 (fun hHeld => ?_)
  clear hK K
  refine wpAnyH_done (by kernel_rfl) ?_ _
  refine NoPanic.normal ?_
  clear s4 s5 s6 s7 k4 k6 z6
  go_wp2_with fail
  go_ret2
  exact ⟨lents, bs0, ov3, .slice A6 m6 c6, w6, rfl, rfl, HE.out.1, HE.out.2, O6.out, C6.out, K6.out⟩
set_option maxRecDepth 100000 in
set_option maxHeartbeats 6400000 in
theorem join_right (B C : Nat) (w : World) (cb t p root n : Nat) (f : Nat → Option KB) (key : List Nat) (ed tv ov : Value) (taken old : List Nat) (h : Chg B C w cb t p root n f key ed tv ov taken old) (hC : C ≤ w.heap.size) (few : old.length ≤ 80000)
    (d : Nat) (hd : d ≤ 199) (ents : List En) (base : Nat) (A : Option Addr) (c : Nat) (u : List Nat) (ho : OwnEn w base (.slice A ents.length c) ents) (hl : ents.length ≤ 1000) (i : Nat) (hi : i = 0) (hi2 : i + 1 < ents.length)
    (sb : Nat) (hsb : ents[i + 1].2 = pk sb) (h0 : sb ≠ 0) (h4 : sb ≤ 4096) (ses : List En) (sbs : List Nat) (hsp : SpotOk f d sb ses sbs (d + 1) ents[i + 1].1 (nextU ents (i + 1) u))
    (kb bk : Nat) (kents : List En) (kA : Option Addr) (kc : Nat) (D : Int) (uk : List Nat) (hk : Held w kb 79 #[.int .i64 D, .slice kA kents.length kc, .string (strB uk)]) (hko : OwnEn w bk (.slice kA kents.length kc) kents) (hkl : 0 < kents.length) (hkl2 : kents.length ≤ 500) :
    Calls Tryd.prog 60 #[.pointer (some ⟨cb, 0, none⟩), noV (d + 1 + 1) A ents.length c u, .int .i64 0, .pointer (some ⟨kb, 0, none⟩)] w (JoinE B C w cb t p root n f key ed tv taken old d sb ses sbs kb 0 2 fun lents => kents ++ lents) := by
  have HO := Lib.hid ho
  have EA : Hid (∀ W, OwnEn W base (.slice A ents.length c) ents → EAt W A ents) := fun W hW => by
    obtain ⟨A', c', e, _, h1⟩ := hW.any
    injection e with e1 _ _
    subst e1
    exact h1
  have KE : Hid (∀ W, OwnEn W bk (.slice kA kents.length kc) kents → EAt W kA kents) := fun W hW => by
    obtain ⟨A', c', e, _, h1⟩ := hW.any
    injection e with e1 _ _
    subst e1
    exact h1
  have SP := Lib.hid hsp
  have H := Lib.hid h
  have HK := Lib.hid hk
  have KO := Lib.hid hko
  have KD := Lib.hid (fun W (hW : EAt W A ents) => kid_any W (d + 1 + 1) (by omega) (by omega) u A c ents hW (by omega) (i + 1) hi2 sb hsb h4)
  rw [show d + 1 + 1 - 1 = d + 1 by omega] at KD
  have RD := Lib.hid (fun W (hW : Chg B C W cb t p root n f key ed tv ov taken old) (hC : C ≤ W.heap.size) => chread_any B C W cb t p root n f key ed tv ov taken old hW hC few d sb ses sbs (d + 1) ents[i + 1].1 (nextU ents (i + 1) u) hsp)
  obtain ⟨kx, hkx⟩ : ∃ kx, kx = ents[i + 1].1 := ⟨_, rfl⟩
  obtain ⟨ux, hux⟩ : ∃ ux, ux = nextU ents (i + 1) u := ⟨_, rfl⟩
  rw [← hkx, ← hux] at KD RD
  obtain ⟨D2, hD2⟩ : ∃ D2 : Int, D2 = ((d + 1 + 1 : Nat) : Int) := ⟨_, rfl⟩
  unfold noV spV at *
  rw [← hD2] at KD ⊢
  obtain ⟨nb, hnb⟩ : ∃ nb, nb = w.heap.size := ⟨_, rfl⟩
  obtain ⟨w1, hw1⟩ : ∃ w1, w1 = w.alloc (.cells #[.int .i64 D2, .slice A ents.length c, .string (strB u)] 79) := ⟨_, rfl⟩
  have U1 : Hid (Below w.heap.size w w1) := by rw [hw1]; exact (Below.refl _ _).alloc (Nat.le_refl _) _
  have N1 : Hid (Held w1 nb 79 #[.int .i64 D2, .slice A ents.length c, .string (strB u)]) := by rw [hw1]; exact Held.new _ _ _ hnb
  have HW1 := Lib.hid hw1
  have HNB := Lib.hid hnb
  have E1 := Lib.hid (EA.out _ (ho.below_ U1.out))
  have H1 := Lib.hid (h.under U1.out)
  have n0 := N1.out.cell 0
  have n1 := N1.out.cell 1
  have n2 := N1.out.cell 2
  have nl := N1.out.lt
  have H0 : Hid (sb ≠ 0) := h0
  have FL : Hid (0 < kents.length ∧ kents.length ≤ 500) := ⟨hkl, hkl2⟩
  have WI : Hid ((i : Int) ≤ 1000) := by show _ ≤ _; omega
  have i1 : (((0 + 1 : Nat)) : Int) = 1 := rfl
  subst hi
  rw [i1] at KD
  clear ho hsp h hk hko hkx hux hD2 hw1 hnb few hsb h0 h4 hkl hkl2
  go_enter Tryd.func60, Tryd.ntmps60
  go_upto_region 1 with fail
  rw [← HW1.out, ← HNB.out]
  go_wp2_with fail
  refine (KD.out _ E1.out).mono ?_
  rintro x w2 ⟨rfl, hb2⟩
  have B2 : Hid (Below w.heap.size w w2) := U1.out.trans (hb2.mono U1.out.size)
  have H2 := Lib.hid (H.out.under B2.out)
  clear hb2 KD n0 n1 n2 nl
  go_wp2_with fail
  refine (RD.out _ H2.out (Nat.le_trans hC B2.out.size)).mono ?_
  rintro x w3 ⟨lents, v3, bs0, ov3, rfl, ho3, hE3, hbs3, hC3, hK3⟩
  obtain ⟨A3, c3, rfl, _, hEA3⟩ := ho3.any
  have B3 := Lib.hid (KpC.under (B := B) (C := C) B2.out)
  have K3 := Lib.hid (B3.out.trans hK3)
  rw [if_neg H0.out] at hC3
  have HE := Lib.hid (And.intro hE3 (hbs3 H0.out))
  have LF : Hid (lents.length ≤ 500) := by
    have h1 := few_ents (hE3.nd.ok SP.out.ok)
    have h2 := hE3.sizes
    show _ ≤ _
    omega
  obtain ⟨D1, hD1⟩ : ∃ D1 : Int, D1 = ((d + 1 : Nat) : Int) := ⟨_, rfl⟩
  rw [← hD1]
  obtain ⟨lb, hlb⟩ : ∃ lb, lb = w3.heap.size := ⟨_, rfl⟩
  obtain ⟨w4, hw4⟩ : ∃ w4, w4 = w3.alloc (.cells #[.int .i64 D1, .slice A3 lents.length c3, .string (strB ux)] 79) := ⟨_, rfl⟩
  have U4 : Hid (Below w3.heap.size w3 w4) := by rw [hw4]; exact (Below.refl _ _).alloc (Nat.le_refl _) _
  have L4 : Hid (Held w4 lb 79 #[.int .i64 D1, .slice A3 lents.length c3, .string (strB ux)]) := by rw [hw4]; exact Held.new _ _ _ hlb
  have C4 := Lib.hid (hC3.under U4.out)
  have K4 : Hid (KpC B C w w4) := K3.out.trans (KpC.under U4.out)
  have KB4 := Lib.hid (K4.out.held HK.out (by decide) (fun e => absurd e (by decide)))
  have KE4 := Lib.hid (KE.out _ (K4.out.en KO.out))
  have LE4 := Lib.hid (hEA3.below U4.out)
  have NE : Hid (lb ≠ kb) := fun e => by
    have h1 := (K3.out.held HK.out (by decide) (fun e => absurd e (by decide))).lt
    omega
  have HW4 := Lib.hid hw4
  have HLB := Lib.hid hlb
  clear ho3 hE3 hbs3 hC3 hK3 hEA3 RD hD1 hw4 hlb
  obtain ⟨m3, hm3⟩ : ∃ m, m = lents.length := ⟨_, rfl⟩
  obtain ⟨mk, hmk⟩ : ∃ m, m = kents.length := ⟨_, rfl⟩
  obtain ⟨vb, hvb⟩ : ∃ vb, vb = w4.heap.size := ⟨_, rfl⟩
  obtain ⟨w5, hw5⟩ : ∃ w5, w5 = (w4.alloc (.cells #[.slice kA mk kc, .slice A3 m3 c3] 74)).drew := ⟨_, rfl⟩
  have U5 : Hid (Below w4.heap.size w4 w5) := by rw [hw5]; exact ((Below.refl _ _).alloc (Nat.le_refl _) _).drew
  have C5 := Lib.hid (C4.out.under U5.out)
  have V5 : Hid (TwoEn w5 vb kA kents.length kc A3 lents.length c3) := by
    rw [hw5, hm3, hmk]
    exact Held.new w4 _ _ hvb
  have CO := Lib.hid (concat_any w5 vb kA kc A3 c3 kents lents V5.out (KE4.out.below U5.out) (LE4.out.below U5.out) (by have := FL.out; omega) FL.out.2 LF.out)
  have KB5 := Lib.hid (Held.below KB4.out U5.out KB4.out.lt)
  have L5 := Lib.hid (Held.below L4.out U5.out L4.out.lt)
  have s4 := L4.out.cell 1
  have s5 := L5.out.cell 1
  have k4 := KB4.out.cell 1
  have K5 : Hid (KpC B C w w5) := K4.out.trans (KpC.under U5.out)
  have HW5 := Lib.hid hw5
  have HVB := Lib.hid hvb
  have HM3 := Lib.hid hm3
  have HMK := Lib.hid hmk
  rw [← hm3] at s4 s5
  rw [← hmk] at k4
  rw [← hm3] at HW4 ⊢
  clear hw5 hvb hm3 hmk
  go_upto_region 6 with fail
  rw [← HW4.out, ← HLB.out]
  refine wp_region_noPanic ?_
  refine wp_region_held_drew (S := fun w' => w'.cell? ⟨lb, 1, none⟩ = some (.slice A3 m3 c3)) (by kernel_rfl) s4 (fun hHeld => ?_)
  refine take_ (i := 0) (v := ?_) 41 rfl rfl (by kernel_rfl) (by kernel_rfl) (by kernel_rfl) (fun _ _ _ h => h) (Or.inl ⟨by rfl, ?_⟩) (by assumption) ?_
  rotate_left
  · (intro wS hSw; (try dsimp only at hSw); go_simp; try with_reducible rfl)
  simp only [Act.put, List.setIfInBounds_toArray]
  refine take_ (i := 1) (v := ?_) 42 rfl rfl (by kernel_rfl) (by kernel_rfl) (by kernel_rfl) (fun _ _ _ h => h) (Or.inl ⟨by rfl, ?_⟩) (by assumption) ?_
  rotate_left
  · (intro wS hSw; (try dsimp only at hSw); go_simp; try with_reducible rfl)
  simp only [Act.put, List.setIfInBounds_toArray]
  refine take_ (i := 2) (v := ?_) 43 rfl rfl (by kernel_rfl) (by kernel_rfl) (by kernel_rfl) (fun _ _ _ h => h) (Or.inl ⟨by rfl, ?_⟩) (by assumption) ?_
  rotate_left
  · (intro wS hSw; (try dsimp only at hSw); go_simp; try with_reducible rfl)
  simp only [Act.put, List.setIfInBounds_toArray]
  refine take_ (i := 3) (v := ?_) 44 rfl rfl (by kernel_rfl) (by kernel_rfl) (by kernel_rfl) (fun _ _ _ h => h) (Or.inl ⟨by rfl, ?_⟩) (by assumption) ?_
  rotate_left
  · (intro wS hSw; (try dsimp only at hSw); go_simp; try with_reducible rfl)
  simp only [Act.put, List.setIfInBounds_toArray]
  refine take_ (i := 5) (v := ?_) 46 rfl rfl (by kernel_rfl) (by kernel_rfl) (by kernel_rfl) (fun _ _ _ h => h) (Or.inl ⟨by rfl, ?_⟩) (by assumption) ?_
  rotate_left
  · (intro wS hSw; (try dsimp only at hSw); go_simp; try with_reducible rfl)
  simp only [Act.put, List.setIfInBounds_toArray]
  refine take_ (i := 6) (v := ?_) 47 rfl rfl (by kernel_rfl) (by kernel_rfl) (by kernel_rfl) (fun _ _ _ h => h) (Or.inl ⟨by rfl, ?_⟩) (by assumption) ?_
  rotate_left
  · (intro wS hSw; (try dsimp only at hSw); go_simp; try with_reducible rfl)
  simp only [Act.put, List.setIfInBounds_toArray]
  refine one_ (i := 4) _ (by kernel_rfl) rfl (fun K hK => ?_)
  go_simp
  refine hK.out _ _ s4 (fun hHeld => ?_)
  clear hK K
  refine one_ (i := 7) _ (by kernel_rfl) rfl (fun K hK => ?_)
  go_simp
  rw [← HW5.out, ← HVB.out]
  refine hK.out _ _ s5 (fun hHeld => ?_)
  clear hK K
  refine one_ (i := 8) _ (by kernel_rfl) rfl (fun K hK => ?_)
  go_simp
  refine CO.out.mono ?_
  rintro x w6 ⟨v6, rfl, ho6, hb6⟩
  dsimp only
  obtain ⟨A6, m6, c6, rfl⟩ : ∃ A m c, v6 = .slice A m c := by
    obtain ⟨A, c, e, _⟩ := ho6.any
    exact ⟨A, _, c, e⟩
  have KB6 := Lib.hid (Held.below KB5.out hb6 KB5.out.lt)
  have L6 := Lib.hid (Held.below L5.out hb6 L5.out.lt)
  have C6 := Lib.hid (C5.out.under hb6)
  have K6 : Hid (KpC B C w w6) := K5.out.trans (KpC.under hb6)
  have O6 := Lib.hid (ho6.base_ K5.out.size)
  have s6 := L6.out.cell 1
  rw [← HM3.out] at s6
  have k6 := KB6.out.cell 1
  have z6 := KB6.out.frozen 1
  have s7 : (w6.setCell ⟨kb, 1, none⟩ (.slice A6 m6 c6)).cell? ⟨lb, 1, none⟩ = some (.slice A3 m3 c3) := by
    have := (L6.out.far (p := ⟨kb, 1, none⟩) NE.out (.slice A6 m6 c6)).cell 1
    rw [this, HM3.out]
    rfl
  clear ho6 hb6 CO
  refine hK.out _ _ s6 (fun hHeld => ?_)
  clear hK K
  refine take_ (i := 9) (v := ?_) 50 rfl rfl (by kernel_rfl) (by kernel_rfl) (by kernel_rfl) (fun _ _ _ h => h) (Or.inl ⟨by rfl, ?_⟩) (by assumption) ?_
  rotate_left
  · (intro wS hSw; (try dsimp only at hSw); go_simp; try with_reducible rfl)
  simp only [Act.put, List.setIfInBounds_toArray]
  refine take_ (i := 10) (v := ?_) 51 rfl rfl (by kernel_rfl) (by kernel_rfl) (by kernel_rfl) (fun _ _ _ h => h) (Or.inl ⟨by rfl, ?_⟩) (by assumption) ?_
  rotate_left
  · (intro wS hSw; (try dsimp only at hSw); go_simp; try with_reducible rfl)
  simp only [Act.put, List.setIfInBounds_toArray]
  refine one_ (i := 11) _ (by kernel_rfl) rfl (fun K hK => ?_)
  go_simp
  refine hK.out _ _ s7 (fun hHeld => ?_)
  clear hK K
  refine wpAnyH_done (by kernel_rfl) ?_ _
  refine NoPanic.normal ?_
  clear s4 s5 s6 s7 k4 k6 z6
  go_wp2_with fail
  go_ret2
  exact ⟨lents, bs0, ov3, .slice A6 m6 c6, w6, rfl, rfl, HE.out.1, HE.out.2, O6.out, C6.out, K6.out⟩
end Go.Proofs.YtnogmgnbhcmajaaDoor

namespace Go.Proofs.YtnogmgnbhcmajaaDoor
open Go.RowKit Wal

/-- What is asked of an edit: what it does to the entries of a leaf, and what it leaves alone. -/
def EdAt (B C : Nat) (w0 : World) (k : FuncId) (caps : Array Value) (E : List En → Option (List En)) : Prop :=
  ∀ W, KpC B C w0 W → ∀ (X kb base : Nat) (A : Option Addr) (c : Nat) (ents : List En) (u : List Nat), X ≤ kb → X ≤ base → base ≤ W.heap.size → Held W kb 79 #[.int .i64 1, .slice A ents.length c, .string (strB u)] → OwnEn W base (.slice A ents.length c) ents → Rises ents → OkAll ents → totalE ents ≤ 511 →
    Calls Tryd.prog k (#[.pointer (some ⟨kb, 0, none⟩)] ++ caps) W fun x w' => ∃ ch A' c' ents', x = .returned (.bool ch) ∧ Held w' kb 79 #[.int .i64 1, .slice A' ents'.length c', .string (strB u)] ∧ OwnEn w' base (.slice A' ents'.length c') ents' ∧ KpS [77, 79] X W w' ∧ E ents = if ch then some ents' else none
def RenewE (B C : Nat) (w : World) (cb t p root n : Nat) (f : Nat → Option KB) (key : List Nat) (ed : Value) (taken old : List Nat) (d : Nat) (es : List En) (bs : List Nat) (E : List En → Option (List En)) (x : Ending) (w' : World) : Prop :=
  (E es = none ∧ ∃ a A m c s tv' ov' olds, x = .returned (.tuple #[.agg #[.int .i64 a, .slice A m c, .string s], .bool false]) ∧ Chg B C w' cb t p root n f key ed tv' ov' taken (old ++ olds) ∧ KpC B C w w' ∧ olds.length ≤ 2 * d + 1) ∨
  ∃ es' f' ents' bs' olds news A' c' tv' ov' s, E es = some es' ∧ x = .returned (.tuple #[.agg #[.int .i64 ((d + 1 : Nat) : Int), .slice A' ents'.length c', .string s], .bool true]) ∧ Renewed n f f' d es' bs ents' bs' olds news ∧ OwnEn w' w.heap.size (.slice A' ents'.length c') ents' ∧ Chg B C w' cb t p root n f' key ed tv' ov' (taken ++ news) (old ++ olds) ∧ cnt n f' = cnt n f + news.length ∧ KpC B C w w' ∧ olds.length ≤ 2 * d + 1
set_option maxRecDepth 100000 in
set_option maxHeartbeats 6400000 in
theorem renew_leaf (B C : Nat) (w : World) (cb t p root n : Nat) (f : Nat → Option KB) (key : List Nat) (k : FuncId) (caps : Array Value) (hk : ∀ (l : Array Value) u, (callFunc k l).run Tryd.prog u = .ok (.enter k l) u) (tv ov : Value) (taken old : List Nat) (h : Chg B C w cb t p root n f key (.func (.func k) #[] caps) tv ov taken old) (hC : C ≤ w.heap.size) (few : old.length ≤ 80000)
    (E : List En → Option (List En)) (hE : EditOk key E) (w0 : World) (h0 : KpC B C w0 w) (hed : EdAt B C w0 k caps E)
    (b : Nat) (es : List En) (bs : List Nat) (lv : Nat) (fk u : List Nat) (hs : SpotOk f 0 b es bs lv fk u) :
    Calls Tryd.prog 48 #[.pointer (some ⟨cb, 0, none⟩), spV b lv fk u] w (RenewE B C w cb t p root n f key (.func (.func k) #[] caps) taken old 0 es bs E) := by
  have H := Lib.hid h
  have SP := Lib.hid hs
  have EK := Lib.hid hE
  have ED := Lib.hid hed
  have K0 := Lib.hid h0
  obtain ⟨q, hq⟩ : ∃ q, q = w.heap.size := ⟨_, rfl⟩
  obtain ⟨bi, hbi⟩ : ∃ bi : Int, bi = (b : Int) := ⟨_, rfl⟩
  obtain ⟨W, hW⟩ : ∃ W, W = (w.alloc (.cells #[.int .i64 bi, .int .i64 (lv : Int), .string (strB fk), .string (strB u)] 89)).alloc (.cells #[.int .i64 0, .slice none 0 0, .string ⟨#[]⟩] 79) := ⟨_, rfl⟩
  have HS : Hid (Held W q 89 #[.int .i64 bi, .int .i64 (lv : Int), .string (strB fk), .string (strB u)]) := by rw [hW]; exact (Held.new w _ _ hq).alloc _
  have HN : Hid (Held W (q + 1) 79 #[.int .i64 0, .slice none 0 0, .string ⟨#[]⟩]) := by rw [hW]; exact Held.new _ _ _ (by rw [hq]; simp)
  have BW : Hid (Below w.heap.size w W) := by rw [hW]; exact ((Below.refl _ _).alloc (Nat.le_refl _) _).alloc (by simp) _
  have RD := Lib.hid (chread_any B C W cb t p root n f key (.func (.func k) #[] caps) tv ov taken old (h.under BW.out) (Nat.le_trans hC BW.out.size) few 0 b es bs lv fk u hs)
  have HW := Lib.hid hW
  have HQ := Lib.hid hq
  have s0 := HS.out.cell 0
  have s1 := HS.out.cell 1
  have s2 := HS.out.cell 2
  have s3 := HS.out.cell 3
  have sl := HS.out.lt
  unfold spV at RD ⊢
  rw [← hbi] at RD ⊢
  clear h hs hE hed h0 few hq hW hbi
  go_enter Tryd.func48, Tryd.ntmps48
  go_upto_region 1 with fail
  rw [← HW.out, ← HQ.out]
  go_wp2_with fail
  refine RD.out.mono ?_
  rintro x w2 ⟨ents, v, bs0, ov2, rfl, ho2, hEn, hbs, hC2, hK2⟩
  obtain ⟨A2, c2, rfl, _, _⟩ := ho2.any
  have e1 : (((0 + 1 : Nat) : Int)) = 1 := rfl
  rw [e1]
  obtain ⟨nb, hnb⟩ : ∃ nb, nb = w2.heap.size := ⟨_, rfl⟩
  obtain ⟨w3, hw3⟩ : ∃ w3, w3 = w2.alloc (.cells #[.int .i64 1, .slice A2 ents.length c2, .string (strB u)] 79) := ⟨_, rfl⟩
  have U3 : Hid (Below w2.heap.size w2 w3) := by rw [hw3]; exact (Below.refl _ _).alloc (Nat.le_refl _) _
  have N3 : Hid (Held w3 nb 79 #[.int .i64 1, .slice A2 ents.length c2, .string (strB u)]) := by rw [hw3]; exact Held.new _ _ _ hnb
  have KW : Hid (KpC B C w W) := KpC.under BW.out
  have K2 : Hid (KpC B C w w2) := KW.out.trans hK2
  have K3 : Hid (KpC B C w w3) := K2.out.trans (KpC.under U3.out)
  have C3 := Lib.hid (hC2.under U3.out)
  have O3 := Lib.hid (ho2.below_ U3.out)
  have X3 : Hid (W.heap.size ≤ w3.heap.size) := Nat.le_trans hK2.size U3.out.size
  have R2 := Lib.hid (hK2.held HN.out (by decide) (fun e => absurd e (by decide)))
  have R3 := Lib.hid (Held.below R2.out U3.out R2.out.lt)
  have NE : Hid (q + 1 ≠ nb) := fun e => by
    have := R2.out.lt
    omega
  have hnd := hEn.nd
  obtain ⟨rfl, rfl⟩ : ents = es ∧ bs0 = [] := hnd
  have HE := Lib.hid (And.intro hEn hbs)
  have CA := Lib.hid (ED.out w3 (K0.out.trans K3.out) W.heap.size nb W.heap.size A2 c2 ents u (by rw [hnb]; exact hK2.size) (Nat.le_refl _) X3.out N3.out O3.out SP.out.rises SP.out.ok hEn.sizes)
  have HW3 := Lib.hid hw3
  have HNB := Lib.hid hnb
  have n0 := N3.out.cell 0
  have n1 := N3.out.cell 1
  have n2 := N3.out.cell 2
  have nl := N3.out.lt
  have z2 := C3.out.blk.cell 2
  clear ho2 hEn hbs hC2 hK2 hw3 hnb e1 s0 s1 s2 s3 sl RD
  go_upto_region 2 with fail
  rw [← HW3.out, ← HNB.out]
  go_wp2_with fail
  refine CA.out.mono ?_
  rintro x w4 ⟨ch, A4, c4, ents4, rfl, hh4, ho4, hs4, hE4⟩
  have N4 := Lib.hid hh4
  have B4 : Hid (Below W.heap.size w3 w4) := hs4.below X3.out
  have C4 := Lib.hid (C3.out.kps hs4 (by decide))
  have K4 : Hid (KpC B C w w4) := K3.out.fresh ⟨B4.out.os, B4.out.tape, B4.out.output, B4.out.size, fun i hi => B4.out.block i (Nat.lt_of_lt_of_le hi BW.out.size)⟩
  have R4 : Hid (Held w4 (q + 1) 79 #[.int .i64 0, .slice none 0 0, .string ⟨#[]⟩]) := (B4.out.block (q + 1) HN.out.lt).trans R3.out
  have O4 := Lib.hid (ho4.base_ BW.out.size)
  have E4 := Lib.hid hE4
  obtain ⟨m4, hm4⟩ : ∃ m, m = ents4.length := ⟨_, rfl⟩
  rw [← hm4] at N4
  obtain ⟨wf, hwf⟩ : ∃ wf, wf = ((w4.setCell ⟨q + 1, 0, none⟩ (.int .i64 1)).setCell ⟨q + 1, 1, none⟩ (.slice A4 m4 c4)).setCell ⟨q + 1, 2, none⟩ (.string (strB u)) := ⟨_, rfl⟩
  have FH : Hid (Held wf (q + 1) 79 #[.int .i64 1, .slice A4 m4 c4, .string (strB u)]) := by rw [hwf]; exact ((R4.out.set_ 0 _).set_ 1 _).set_ 2 _
  have KS : Hid (KpS [79] 0 w4 wf) := by rw [hwf]; exact (((KpS.refl _ _ _).set_ R4.out (by simp) (Nat.zero_le _) 0 _).set_ (R4.out.set_ 0 _) (by simp) (Nat.zero_le _) 1 _).set_ ((R4.out.set_ 0 _).set_ 1 _) (by simp) (Nat.zero_le _) 2 _
  have BF : Hid (Below w.heap.size w4 wf) := by
    rw [hwf]
    have hq' : w.heap.size ≤ q + 1 := by rw [HQ.out]; omega
    exact (((Below.refl _ _).setCell (p := ⟨q + 1, 0, none⟩) hq' _).setCell (p := ⟨q + 1, 1, none⟩) hq' _).setCell (p := ⟨q + 1, 2, none⟩) hq' _
  have CF := Lib.hid (C4.out.kps KS.out (by decide))
  have FO : Hid (OwnEn wf w.heap.size (.slice A4 ents4.length c4) ents4) := KS.out.row O4.out (by decide)
  have FIN : Hid (RenewE B C w cb t p root n f key (.func (.func k) #[] caps) taken old 0 ents bs E (.returned (.tuple #[.agg #[.int .i64 1, .slice A4 m4 c4, .string (strB u)], .bool ch])) wf) := by
    have lo : (if b = 0 then ([] : List Nat) else [b]).length ≤ 2 * 0 + 1 := by split <;> simp
    cases ch with
    | false => exact .inl ⟨hE4, 1, A4, m4, c4, strB u, tv, ov2, _, rfl, CF.out, K4.out.fresh BF.out, lo⟩
    | true =>
      have hsz := EK.out.size ents ents4 hE4 SP.out.rises SP.out.ok
      have hb0 : bs = if b = 0 then ([] : List Nat) else [b] := by
        by_cases c : b = 0
        · rw [if_pos c]
          rcases SP.out.at_ with ⟨_, _, _, e⟩ | ta
          · exact e
          · have := ta.top.1
            omega
        · rw [if_neg c]
          exact HE.out.2 c
      refine .inr ⟨ents4, f, ents4, [], (if b = 0 then ([] : List Nat) else [b]), [], A4, c4, tv, ov2, strB u, hE4, by rw [hm4]; rfl, ⟨⟨rfl, rfl⟩, Grew.refl n f, ⟨[], by rw [List.append_nil, ← hb0], List.Perm.refl _⟩, ?_, fun h => absurd h (Nat.lt_irrefl 0), by simp⟩, FO.out, by rw [List.append_nil]; exact CF.out, rfl, K4.out.fresh BF.out, lo⟩
      have := HE.out.1.sizes
      omega
  have HWF := Lib.hid hwf
  have n0 := N4.out.cell 0
  have n1 := N4.out.cell 1
  have n2 := N4.out.cell 2
  have nl := N4.out.lt
  have r0 := R4.out.cell 0
  have r1 := R4.out.cell 1
  have r2 := R4.out.cell 2
  have y0 := R4.out.frozen 0
  have y1 := R4.out.frozen 1
  have y2 := R4.out.frozen 2
  clear hh4 ho4 hs4 hE4 hm4 hwf CA z2
  go_wp2_with fail
  rw [← HWF.out]
  exact bodyPost_ret (res_cellB _ _ 5 4 79 _ _ _ Tryd.results48 rfl rfl (load_node FH.out rfl)) rfl FIN.out
end Go.Proofs.YtnogmgnbhcmajaaDoor

namespace Go.Proofs.YtnogmgnbhcmajaaDoor
open Wal

/-- What is laid in the stead of the kids M: entries ents1, pairs es1, blocks bs1 below; olds1 go, kept1 stay. -/
structure Stead (n : Nat) (f f1 : Nat → Option KB) (d : Nat) (M : List Kid) (ents1 es1 : List En) (bs1 olds1 news1 : List Nat) : Prop where
  nd : Nd f1 d ents1 es1 bs1
  grew : Grew n f f1 news1
  swap : ∃ kept, (blocksK M).Perm (olds1 ++ kept) ∧ bs1.Perm (news1 ++ kept)
  few : news1.length ≤ 2 * d
  fit : totalE ents1 ≤ 829
  two : 0 < d → 2 ≤ ents1.length
theorem Stead.alone {n : Nat} {f f1 : Nat → Option KB} {d : Nat} {X : Kid} {es1 ents1 : List En} {bs1 olds1 news1 : List Nat} (r : Renewed n f f1 d es1 X.bs ents1 bs1 olds1 news1) (h2 : 0 < d → 2 ≤ ents1.length) : Stead n f f1 d [X] ents1 es1 bs1 olds1 news1 := by
  obtain ⟨kept, p1, p2⟩ := r.swap
  exact ⟨r.nd, r.grew, ⟨kept, by simpa [blocksK] using p1, p2⟩, r.few, by have := r.fit; omega, h2⟩
theorem Stead.left {n : Nat} {f f1 : Nat → Option KB} {d : Nat} {S X : Kid} {es1 ents1 lents : List En} {bs1 olds1 news1 bs0 : List Nat} (r : Renewed n f f1 d es1 X.bs ents1 bs1 olds1 news1) (l : Nd f1 d lents S.es bs0) (hb : S.bs = S.b :: bs0) (ls : totalE lents ≤ 511) (l2 : 0 < d → 2 ≤ lents.length) (hw : totalE ents1 < 255) :
    Stead n f f1 d [S, X] (lents ++ ents1) (S.es ++ es1) (bs0 ++ bs1) (olds1 ++ [S.b]) news1 := by
  obtain ⟨kept, p1, p2⟩ := r.swap
  refine ⟨l.join r.nd, r.grew, ⟨kept ++ bs0, ?_, ?_⟩, r.few, by rw [totalE_append]; omega, fun h => by rw [List.length_append]; have := l2 h; omega⟩
  · refine List.perm_iff_count.2 fun a => ?_
    have := List.perm_iff_count.1 p1 a
    simp only [blocksK, List.flatMap_cons, List.flatMap_nil, List.count_append, List.count_cons, List.count_nil, hb] at this ⊢
    omega
  · refine List.perm_iff_count.2 fun a => ?_
    have := List.perm_iff_count.1 p2 a
    simp only [List.count_append] at this ⊢
    omega
theorem Stead.right {n : Nat} {f f1 : Nat → Option KB} {d : Nat} {S X : Kid} {es1 ents1 lents : List En} {bs1 olds1 news1 bs0 : List Nat} (r : Renewed n f f1 d es1 X.bs ents1 bs1 olds1 news1) (l : Nd f1 d lents S.es bs0) (hb : S.bs = S.b :: bs0) (ls : totalE lents ≤ 511) (l2 : 0 < d → 2 ≤ lents.length) (hw : totalE ents1 < 255) :
    Stead n f f1 d [X, S] (ents1 ++ lents) (es1 ++ S.es) (bs1 ++ bs0) (olds1 ++ [S.b]) news1 := by
  obtain ⟨kept, p1, p2⟩ := r.swap
  refine ⟨r.nd.join l, r.grew, ⟨kept ++ bs0, ?_, ?_⟩, r.few, by rw [totalE_append]; omega, fun h => by rw [List.length_append]; have := l2 h; omega⟩
  · refine List.perm_iff_count.2 fun a => ?_
    have := List.perm_iff_count.1 p1 a
    simp only [blocksK, List.flatMap_cons, List.flatMap_nil, List.count_append, List.count_cons, List.count_nil, hb] at this ⊢
    omega
  · refine List.perm_iff_count.2 fun a => ?_
    have := List.perm_iff_count.1 p2 a
    simp only [List.count_append] at this ⊢
    omega
/-- A kid that wants no more has two entries, or is an empty leaf. -/
theorem two_enough {f : Nat → Option KB} {d : Nat} {ents es : List En} {bs : List Nat} (h : Nd f d ents es bs) (ho : OkAll es) (hs : 0 < d → ents ≠ []) (hw : ¬ (ents ≠ [] ∧ totalE ents < 255)) : 0 < d → 2 ≤ ents.length := fun hd => by
  have h1 := hs hd
  have h2 : 255 ≤ totalE ents := Classical.byContradiction fun h => hw ⟨h1, by omega⟩
  exact two_of (m := 138) (fun e he => (h.ok ho e he).size_kid hd) (by omega)
theorem Stead.up {n : Nat} {f f1 f2 : Nat → Option KB} {d b : Nat} {A M C : List Kid} {bs : List Nat} {ents1 es1 : List En} {bs1 olds1 news1 news2 : List Nat} {ks2 : List Kid}
    (s : Stead n f f1 d M ents1 es1 bs1 olds1 news1) (hb : bs = b :: blocksK (A ++ M ++ C)) (ht : ∀ k ∈ A ++ M ++ C, TreeIs f d k.b k.es k.bs) (hf : totalE (leads (A ++ M ++ C)) ≤ 511)
    (l : LaidN n f1 f2 d ents1 es1 bs1 ks2 news2) (ho : OkAll es1) (hne : A ++ C = [] → ents1 ≠ []) :
    Renewed n f f2 (d + 1) (pairs A ++ es1 ++ pairs C) bs (leads (A ++ ks2 ++ C)) (blocksK (A ++ ks2 ++ C)) (b :: olds1) (news1 ++ news2) := by
  obtain ⟨kept, p1, p2⟩ := s.swap
  exact Renewed.up hb ht hf s.grew p1 p2 s.few l ho hne
end Go.Proofs.YtnogmgnbhcmajaaDoor
