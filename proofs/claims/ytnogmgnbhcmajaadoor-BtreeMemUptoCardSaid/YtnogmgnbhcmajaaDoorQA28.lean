/-
  btree: kid, top. · btree: a sound node; zeros trimmed.
-/
import Derived.Test.YtnogmgnbhcmajaaDoorQA26
import Derived.Deep.MidRow
namespace Go.Proofs.YtnogmgnbhcmajaaDoor
open Go.RowKit Wal

/-- The bound of what lies at the i-th entry: the next one's key, or the node's own bound. -/
def nextU (es : List En) (i : Nat) (u : List Nat) : List Nat := match es[i + 1]? with | some e => e.1 | none => u
theorem resC {P : Program} {f : Func} (tm : Array Value) (w : World) (j T : Nat) (v : Value) (p : Addr) (hf : f.results = #[.cell j T]) (h : tm.getD j undef = .pointer (some p)) (lv : (loadVar T p).run P w = .ok v w) : (results f tm).run P w = .ok v w := by
  unfold results
  rw [hf]
  rw [Array.getD_eq_getD_getElem?] at h
  simp [h, asAddr, lv]
theorem zeroSpot : (Tryd.prog.info? 89).map (fun i => (i.zero, i.size)) = some (some (.agg #[.int .i64 0, .int .i64 0, .string ⟨#[]⟩, .string ⟨#[]⟩]), 4) := by kernel_rfl
theorem zeroNode : (Tryd.prog.info? 79).map (fun i => (i.zero, i.size)) = some (some (.agg #[.int .i64 0, .slice none 0 0, .string ⟨#[]⟩]), 3) := by kernel_rfl
theorem load_spot {w : World} {b : Nat} {cs : Array Value} (h : Held w b 89 cs) (hs : cs.size = 4) : (loadVar 89 ⟨b, 0, none⟩).run Tryd.prog w = .ok (.agg cs) w := by
  have lv := run_loadVar_mid (P := Tryd.prog) w b 0 89 cs.toList _ (fun j v hv => by rw [Nat.zero_add, h.cell]; simpa using hv) Tryd.underlying89 rfl (by rw [(zero_of_info zeroSpot).2, Array.length_toList, hs])
  simpa using lv
theorem load_node {w : World} {b : Nat} {cs : Array Value} (h : Held w b 79 cs) (hs : cs.size = 3) : (loadVar 79 ⟨b, 0, none⟩).run Tryd.prog w = .ok (.agg cs) w := by
  have lv := run_loadVar_mid (P := Tryd.prog) w b 0 79 cs.toList _ (fun j v hv => by rw [Nat.zero_add, h.cell]; simpa using hv) Tryd.underlying79 rfl (by rw [(zero_of_info zeroNode).2, Array.length_toList, hs])
  simpa using lv
set_option maxRecDepth 100000 in
set_option maxHeartbeats 1600000 in
theorem kid_any (w : World) (L : Nat) (hL : 1 ≤ L) (hL2 : L ≤ 1000) (u : List Nat) (A : Option Addr) (c : Nat) (es : List En) (h : EAt w A es) (hl : es.length ≤ 100000) (i : Nat) (hi : i < es.length) (b : Nat) (hb : es[i].2 = pk b) (hb4 : b ≤ 4096) :
    Calls Tryd.prog 46 #[noV L A es.length c u, .int .i64 (i : Nat)] w fun x w' => x = .returned (spV b (L - 1) es[i].1 (nextU es i u)) ∧ Below w.heap.size w w' := by
  have e8 : (256 : Nat) ^ 8 = 18446744073709551616 := by decide
  have RN := Lib.hid (fun W => readNumber_any W (pk b) (pk_bytes b) (pk_length (by rw [e8]; omega)))
  have hw : wrap64 ((b : Nat) : Int) = (b : Int) := by unfold wrap64; omega
  simp only [unnum_pk, hw] at RN
  clear hw e8
  obtain ⟨n, hn⟩ : ∃ n, n = es.length := ⟨_, rfl⟩
  have HN := Lib.hid hn
  have H := Lib.hid h
  obtain ⟨g, off, rfl, c0, c1⟩ := h.at_ hi
  obtain ⟨k0, hk0⟩ : ∃ k0, k0 = es[i].1 := ⟨_, rfl⟩
  rw [hb] at c1
  rw [← hk0] at c0 ⊢
  have wl : (L : Int) - 1 = ((L - 1 : Nat) : Int) := by omega
  have li : (i : Int) < (n : Int) := by omega
  have lt := (H.out (by omega))
  obtain ⟨g', off', eg, hgl, _⟩ := lt
  cases eg
  unfold noV
  rw [← hn]
  clear hk0 hb h hn
  go_enter Tryd.func46, Tryd.ntmps46
  go_upto_region 1 with fail
  obtain ⟨p, hp⟩ : ∃ p, p = w.heap.size := ⟨_, rfl⟩
  obtain ⟨W, hW⟩ : ∃ W, W = (w.alloc (.cells #[.int .i64 (L : Int), .slice (some ⟨g, off, none⟩) n c, .string (strB u)] 79)).alloc (.cells #[.int .i64 0, .int .i64 0, .string ⟨#[]⟩, .string ⟨#[]⟩] 89) := ⟨_, rfl⟩
  have HN1 : Held W p 79 #[.int .i64 (L : Int), .slice (some ⟨g, off, none⟩) n c, .string (strB u)] := by rw [hW, hp]; exact (Held.new w _ _ rfl).alloc _
  have HS1 : Held W (p + 1) 89 #[.int .i64 0, .int .i64 0, .string ⟨#[]⟩, .string ⟨#[]⟩] := by rw [hW]; exact Held.new _ _ _ (by rw [hp]; simp)
  have BW : Below w.heap.size w W := by rw [hW]; exact ((Below.refl _ _).alloc (Nat.le_refl _) _).alloc (by simp) _
  have b0 := HN1.cell 0
  have b1 := HN1.cell 1
  have b2 := HN1.cell 2
  have d0 := (BW.cell (p := ⟨g, off + i * 2, none⟩) hgl).trans c0
  have d1 := (BW.cell (p := ⟨g, off + i * 2 + 1, none⟩) hgl).trans c1
  rw [← hW, ← hp]
  have HBW := Lib.hid BW
  have HHS := Lib.hid HS1
  have HHN := Lib.hid HN1
  have HP := Lib.hid hp
  have sz : p + 1 < W.heap.size := HS1.lt
  have sz2 : p < W.heap.size := HN1.lt
  have sz3 : g < W.heap.size := Nat.lt_of_lt_of_le hgl BW.size
  have wl2 : IntKind.i64.wrap ((L - 1 : Nat) : Int) = ((L - 1 : Nat) : Int) := by rw [IntKind.wrap_i64]; omega
  have FB : Hid (∀ w', Below W.heap.size W w' → w'.cell? ⟨p, 0, none⟩ = some (.int .i64 (L : Int)) ∧ w'.cell? ⟨p, 1, none⟩ = some (.slice (some ⟨g, off, none⟩) n c) ∧ w'.cell? ⟨p, 2, none⟩ = some (.string (strB u)) ∧ w'.cell? ⟨g, off + i * 2, none⟩ = some (.string (strB k0)) ∧ w'.cell? ⟨g, off + i * 2 + 1, none⟩ = some (.string (strB (pk b)))) := fun w' h' => ⟨(h'.cell (p := ⟨p, 0, none⟩) sz2).trans b0, (h'.cell (p := ⟨p, 1, none⟩) sz2).trans b1, (h'.cell (p := ⟨p, 2, none⟩) sz2).trans b2, (h'.cell (p := ⟨g, off + i * 2, none⟩) sz3).trans d0, (h'.cell (p := ⟨g, off + i * 2 + 1, none⟩) sz3).trans d1⟩
  have E0 : Hid (∀ _ : i + 1 < n, ∃ k1, nextU es i u = k1 ∧ W.cell? ⟨g, off + (i + 1) * 2, none⟩ = some (.string (strB k1))) := fun hlt => by
    have hlt' : i + 1 < es.length := by rw [← HN.out]; exact hlt
    obtain ⟨g', off', e, x, _⟩ := (H.out.below BW).at_ hlt'
    cases e
    exact ⟨es[i + 1].1, by unfold nextU; rw [List.getElem?_eq_getElem hlt'], x⟩
  have FINH : Hid (∀ v3 o, Held (((((W.setCell ⟨p + 1, 0, none⟩ (.int .i64 (b : Int))).setCell ⟨p + 1, 1, none⟩ (.int .i64 ((L - 1 : Nat) : Int))).setCell ⟨p + 1, 2, none⟩ (.string (strB k0))).setCell ⟨p + 1, 3, none⟩ v3).alloc o).drew (p + 1) 89 #[.int .i64 (b : Int), .int .i64 ((L - 1 : Nat) : Int), .string (strB k0), v3]) := fun v3 o => ((((HS1.set_ 0 _).set_ 1 _).set_ 2 _).set_ 3 _).alloc o
  have FINB : Hid (∀ v3 o, Below w.heap.size w (((((W.setCell ⟨p + 1, 0, none⟩ (.int .i64 (b : Int))).setCell ⟨p + 1, 1, none⟩ (.int .i64 ((L - 1 : Nat) : Int))).setCell ⟨p + 1, 2, none⟩ (.string (strB k0))).setCell ⟨p + 1, 3, none⟩ v3).alloc o).drew) := fun v3 o => by
    have st : ∀ (j : Nat) (v : Value) (X : World), Below w.heap.size w X → Below w.heap.size w (X.setCell ⟨p + 1, j, none⟩ v) := fun j v X h => h.setCell (by show w.heap.size ≤ p + 1; omega) v
    exact ((st 3 _ _ (st 2 _ _ (st 1 _ _ (st 0 _ _ BW)))).alloc (by simp only [World.size_setCell]; exact BW.size) _).drew
  have f0 := HS1.cell 0
  have f1 := HS1.cell 1
  have f2 := HS1.cell 2
  have f3 := HS1.cell 3
  have y0 := HS1.frozen 0
  have y1 := HS1.frozen 1
  have y2 := HS1.frozen 2
  have y3 := HS1.frozen 3
  clear hW hp BW HS1 HN1 c0 c1
  refine wp_region_noPanic ?_
  refine wp_region_held_drew (S := fun w' => w'.cell? ⟨p, 0, none⟩ = some (.int .i64 (L : Int)) ∧ w'.cell? ⟨p, 1, none⟩ = some (.slice (some ⟨g, off, none⟩) n c) ∧ w'.cell? ⟨p, 2, none⟩ = some (.string (strB u)) ∧ w'.cell? ⟨g, off + i * 2, none⟩ = some (.string (strB k0)) ∧ w'.cell? ⟨g, off + i * 2 + 1, none⟩ = some (.string (strB (pk b)))) (by kernel_rfl) ⟨b0, b1, b2, d0, d1⟩ (fun hHeld => ?_)
  refine take_ (i := 0) (v := ?_) 6 rfl rfl (by kernel_rfl) (by kernel_rfl) (by kernel_rfl) (fun _ _ _ h => h) (Or.inl ⟨by rfl, ?_⟩) (by assumption) ?_
  rotate_left
  · (intro wS hSw; (try dsimp only at hSw); go_simp; try with_reducible rfl)
  simp only [Act.put, List.setIfInBounds_toArray, List.set_cons_zero, List.set_cons_succ]
  refine take_ (i := 1) (v := ?_) 7 rfl rfl (by kernel_rfl) (by kernel_rfl) (by kernel_rfl) (fun _ _ _ h => h) (Or.inl ⟨by rfl, ?_⟩) (by assumption) ?_
  rotate_left
  · (intro wS hSw; (try dsimp only at hSw); go_simp; try with_reducible rfl)
  simp only [Act.put, List.setIfInBounds_toArray, List.set_cons_zero, List.set_cons_succ]
  refine take_ (i := 2) (v := ?_) 8 rfl rfl (by kernel_rfl) (by kernel_rfl) (by kernel_rfl) (fun _ _ _ h => h) (Or.inl ⟨by rfl, ?_⟩) (by assumption) ?_
  rotate_left
  · (intro wS hSw; (try dsimp only at hSw); go_simp; try with_reducible rfl)
  simp only [Act.put, List.setIfInBounds_toArray, List.set_cons_zero, List.set_cons_succ]
  refine take_ (i := 3) (v := ?_) 9 rfl rfl (by kernel_rfl) (by kernel_rfl) (by kernel_rfl) (fun _ _ _ h => h) (Or.inl ⟨by rfl, ?_⟩) (by assumption) ?_
  rotate_left
  · (intro wS hSw; (try dsimp only at hSw); go_simp; try with_reducible rfl)
  simp only [Act.put, List.setIfInBounds_toArray, List.set_cons_zero, List.set_cons_succ]
  refine take_ (i := 4) (v := ?_) 10 rfl rfl (by kernel_rfl) (by kernel_rfl) (by kernel_rfl) (fun _ _ _ h => h) (Or.inl ⟨by rfl, ?_⟩) (by assumption) ?_
  rotate_left
  · (intro wS hSw; (try dsimp only at hSw); go_simp; try with_reducible rfl)
  simp only [Act.put, List.setIfInBounds_toArray, List.set_cons_zero, List.set_cons_succ]
  refine take_ (i := 5) (v := ?_) 11 rfl rfl (by kernel_rfl) (by kernel_rfl) (by kernel_rfl) (fun _ _ _ h => h) (Or.inl ⟨by rfl, ?_⟩) (by assumption) ?_
  rotate_left
  · (intro wS hSw; (try dsimp only at hSw); go_simp; try with_reducible rfl)
  simp only [Act.put, List.setIfInBounds_toArray, List.set_cons_zero, List.set_cons_succ]
  refine take_ (i := 7) (v := ?_) 13 rfl rfl (by kernel_rfl) (by kernel_rfl) (by kernel_rfl) (fun _ _ _ h => h) (Or.inl ⟨by rfl, ?_⟩) (by assumption) ?_
  rotate_left
  · (intro wS hSw; (try dsimp only at hSw); go_simp; try with_reducible rfl)
  simp only [Act.put, List.setIfInBounds_toArray, List.set_cons_zero, List.set_cons_succ]
  refine take_ (i := 8) (v := ?_) 14 rfl rfl (by kernel_rfl) (by kernel_rfl) (by kernel_rfl) (fun _ _ _ h => h) (Or.inl ⟨by rfl, ?_⟩) (by assumption) ?_
  rotate_left
  · (intro wS hSw; (try dsimp only at hSw); go_simp; try with_reducible rfl)
  simp only [Act.put, List.setIfInBounds_toArray, List.set_cons_zero, List.set_cons_succ]
  refine take_ (i := 9) (v := ?_) 15 rfl rfl (by kernel_rfl) (by kernel_rfl) (by kernel_rfl) (fun _ _ _ h => h) (Or.inl ⟨by rfl, ?_⟩) (by assumption) ?_
  rotate_left
  · (intro wS hSw; (try dsimp only at hSw); go_simp; try with_reducible rfl)
  simp only [Act.put, List.setIfInBounds_toArray, List.set_cons_zero, List.set_cons_succ]
  refine take_ (i := 10) (v := ?_) 16 rfl rfl (by kernel_rfl) (by kernel_rfl) (by kernel_rfl) (fun _ _ _ h => h) (Or.inl ⟨by rfl, ?_⟩) (by assumption) ?_
  rotate_left
  · (intro wS hSw; (try dsimp only at hSw); go_simp; try with_reducible rfl)
  simp only [Act.put, List.setIfInBounds_toArray, List.set_cons_zero, List.set_cons_succ]
  refine take_ (i := 11) (v := ?_) 17 rfl rfl (by kernel_rfl) (by kernel_rfl) (by kernel_rfl) (fun _ _ _ h => h) (Or.inl ⟨by rfl, ?_⟩) (by assumption) ?_
  rotate_left
  · (intro wS hSw; (try dsimp only at hSw); go_simp; try with_reducible rfl)
  simp only [Act.put, List.setIfInBounds_toArray, List.set_cons_zero, List.set_cons_succ]
  refine take_ (i := 12) (v := ?_) 18 rfl rfl (by kernel_rfl) (by kernel_rfl) (by kernel_rfl) (fun _ _ _ h => h) (Or.inl ⟨by rfl, ?_⟩) (by assumption) ?_
  rotate_left
  · (intro wS hSw; (try dsimp only at hSw); go_simp; try with_reducible rfl)
  simp only [Act.put, List.setIfInBounds_toArray, List.set_cons_zero, List.set_cons_succ]
  refine take_ (i := 13) (v := ?_) 19 rfl rfl (by kernel_rfl) (by kernel_rfl) (by kernel_rfl) (fun _ _ _ h => h) (Or.inl ⟨by rfl, ?_⟩) (by assumption) ?_
  rotate_left
  · (intro wS hSw; (try dsimp only at hSw); go_simp; try with_reducible rfl)
  simp only [Act.put, List.setIfInBounds_toArray, List.set_cons_zero, List.set_cons_succ]
  refine take_ (i := 14) (v := ?_) 20 rfl rfl (by kernel_rfl) (by kernel_rfl) (by kernel_rfl) (fun _ _ _ h => h) (Or.inl ⟨by rfl, ?_⟩) (by assumption) ?_
  rotate_left
  · (intro wS hSw; (try dsimp only at hSw); go_simp; try with_reducible rfl)
  simp only [Act.put, List.setIfInBounds_toArray, List.set_cons_zero, List.set_cons_succ]
  refine take_ (i := 15) (v := ?_) 21 rfl rfl (by kernel_rfl) (by kernel_rfl) (by kernel_rfl) (fun _ _ _ h => h) (Or.inl ⟨by rfl, ?_⟩) (by assumption) ?_
  rotate_left
  · (intro wS hSw; (try dsimp only at hSw); go_simp; try with_reducible rfl)
  simp only [Act.put, List.setIfInBounds_toArray, List.set_cons_zero, List.set_cons_succ]
  refine take_ (i := 16) (v := ?_) 22 rfl rfl (by kernel_rfl) (by kernel_rfl) (by kernel_rfl) (fun _ _ _ h => h) (Or.inl ⟨by rfl, ?_⟩) (by assumption) ?_
  rotate_left
  · (intro wS hSw; (try dsimp only at hSw); go_simp; try with_reducible rfl)
  simp only [Act.put, List.setIfInBounds_toArray, List.set_cons_zero, List.set_cons_succ]
  refine take_ (i := 17) (v := ?_) 23 rfl rfl (by kernel_rfl) (by kernel_rfl) (by kernel_rfl) (fun _ _ _ h => h) (Or.inl ⟨by rfl, ?_⟩) (by assumption) ?_
  rotate_left
  · (intro wS hSw; (try dsimp only at hSw); go_simp; try with_reducible rfl)
  simp only [Act.put, List.setIfInBounds_toArray, List.set_cons_zero, List.set_cons_succ]
  refine two_ (i := 6) (j := 19) _ _ (by kernel_rfl) rfl rfl (fun K hK => ?_) (fun K hK => ?_)
  · go_simp
    refine (RN.out _).mono ?_
    rintro e w5 ⟨rfl, rfl⟩
    dsimp only
    refine hK.out _ _ ⟨b0, b1, b2, d0, d1⟩ (fun hHeld => ?_)
    clear hK K
    refine take_ (i := 18) (v := ?_) 24 rfl rfl (by kernel_rfl) (by kernel_rfl) (by kernel_rfl) (fun _ _ _ h => h) (Or.inl ⟨by rfl, ?_⟩) (by assumption) ?_
    rotate_left
    · (intro wS hSw; (try dsimp only at hSw); go_simp; try with_reducible rfl)
    simp only [Act.put, List.setIfInBounds_toArray, List.set_cons_zero, List.set_cons_succ]
    refine one_ (i := 19) _ (by kernel_rfl) rfl (fun K hK => ?_)
    go_simp
    refine hK.out _ _ (FB.out _ (((Below.refl _ _).alloc (Nat.le_refl _) _).drew)) (fun hHeld => ?_)
    clear hK K
    refine one_ (i := 20) _ (by kernel_rfl) rfl (fun K hK => ?_)
    go_simp
    refine hK.out _ _ (FB.out _ (((Below.refl _ _).alloc (Nat.le_refl _) _).drew)) (fun hHeld => ?_)
    clear hK K
    refine wpAnyH_done (by kernel_rfl) ?_ _
    refine NoPanic.normal ?_
    by_cases hn : i + 1 < n
    · obtain ⟨k1, hk1, e0⟩ := E0.out hn
      have HK := Lib.hid hk1
      have hni : (i : Int) + 1 < (n : Int) := by omega
      clear hk1
      go_wp2_with fail
      exact bodyPost_ret (resC _ _ 4 89 _ _ Tryd.results46 rfl (load_spot (FINH.out _ _) rfl)) rfl ⟨by rw [HK.out]; rfl, FINB.out _ _⟩
    · have hni : ¬ (i : Int) + 1 < (n : Int) := by omega
      have HK : Hid (nextU es i u = u) := by
        show _ = _
        unfold nextU
        rw [List.getElem?_eq_none (by rw [← HN.out]; omega)]
      go_wp2_with fail
      exact bodyPost_ret (resC _ _ 4 89 _ _ Tryd.results46 rfl (load_spot (FINH.out _ _) rfl)) rfl ⟨by rw [HK.out]; rfl, FINB.out _ _⟩
  · go_simp
    refine hK.out _ _ (FB.out _ (((Below.refl _ _).alloc (Nat.le_refl _) _).drew)) (fun hHeld => ?_)
    clear hK K
    refine one_ (i := 6) _ (by kernel_rfl) rfl (fun K hK => ?_)
    go_simp
    refine (RN.out _).mono ?_
    rintro e w5 ⟨rfl, rfl⟩
    dsimp only
    refine hK.out _ _ (FB.out _ (((Below.refl _ _).alloc (Nat.le_refl _) _).drew)) (fun hHeld => ?_)
    clear hK K
    refine take_ (i := 18) (v := ?_) 24 rfl rfl (by kernel_rfl) (by kernel_rfl) (by kernel_rfl) (fun _ _ _ h => h) (Or.inl ⟨by rfl, ?_⟩) (by assumption) ?_
    rotate_left
    · (intro wS hSw; (try dsimp only at hSw); go_simp; try with_reducible rfl)
    simp only [Act.put, List.setIfInBounds_toArray, List.set_cons_zero, List.set_cons_succ]
    refine one_ (i := 20) _ (by kernel_rfl) rfl (fun K hK => ?_)
    go_simp
    refine hK.out _ _ (FB.out _ (((Below.refl _ _).alloc (Nat.le_refl _) _).drew)) (fun hHeld => ?_)
    clear hK K
    refine wpAnyH_done (by kernel_rfl) ?_ _
    refine NoPanic.normal ?_
    by_cases hn : i + 1 < n
    · obtain ⟨k1, hk1, e0⟩ := E0.out hn
      have HK := Lib.hid hk1
      have hni : (i : Int) + 1 < (n : Int) := by omega
      clear hk1
      go_wp2_with fail
      exact bodyPost_ret (resC _ _ 4 89 _ _ Tryd.results46 rfl (load_spot (FINH.out _ _) rfl)) rfl ⟨by rw [HK.out]; rfl, FINB.out _ _⟩
    · have hni : ¬ (i : Int) + 1 < (n : Int) := by omega
      have HK : Hid (nextU es i u = u) := by
        show _ = _
        unfold nextU
        rw [List.getElem?_eq_none (by rw [← HN.out]; omega)]
      go_wp2_with fail
      exact bodyPost_ret (resC _ _ 4 89 _ _ Tryd.results46 rfl (load_spot (FINH.out _ _) rfl)) rfl ⟨by rw [HK.out]; rfl, FINB.out _ _⟩
end Go.Proofs.YtnogmgnbhcmajaaDoor

namespace Go.Proofs.YtnogmgnbhcmajaaDoor
open Go.RowKit Wal

theorem mayHold_ok (w : World) (d : Nat) (e : En) (h : EntOk d e) (A : Option Addr) (n c : Nat) (u : List Nat) :
    Calls Tryd.prog 82 #[noV (d + 1) A n c u, .string (strB e.2)] w fun x w' => x = .returned (.bool true) ∧ Below w.heap.size w w' := by
  rcases Nat.eq_zero_or_pos d with rfl | hd
  · refine (mayHold_leaf w A n c u e.2).mono ?_
    rintro x w' ⟨rfl, hb⟩
    exact ⟨by rw [decide_eq_true h.v], hb⟩
  · obtain ⟨b, h1, h2, h3⟩ := h.kid hd
    rw [h3]
    exact mayHold_kid w (d + 1) (by omega) A n c u b h1 h2
def lastK (es : List En) (k : Nat) : List Nat := if k = 0 then [] else (es.getD (k - 1) ([], [])).1
theorem lastK_succ (es : List En) (k : Nat) (h : k < es.length) : lastK es (k + 1) = es[k].1 := by
  unfold lastK
  rw [if_neg (by omega), Nat.add_sub_cancel, List.getD_eq_getElem?_getD, List.getElem?_eq_getElem h]
  rfl
theorem lastK_lt {d : Nat} {es : List En} (ho : ∀ e ∈ es, EntOk d e) (hr : Rises es) (k : Nat) (h : k < es.length) : ltB (lastK es k) es[k].1 = true := by
  rcases k with _ | k
  · have := (ho _ (List.getElem_mem h)).k1
    unfold lastK
    rw [if_pos rfl]
    cases hx : es[0].1 with
    | nil => rw [hx] at this; simp at this
    | cons a r => rfl
  · rw [lastK_succ es k (by omega)]
    exact List.pairwise_iff_getElem.1 hr k (k + 1) (by omega) h (by omega)
theorem lastK_bytes {d : Nat} {es : List En} (ho : ∀ e ∈ es, EntOk d e) (k : Nat) (h : k ≤ es.length) : ∀ x ∈ lastK es k, x < 256 := by
  rcases k with _ | k
  · simp [lastK]
  · rw [lastK_succ es k (by omega)]
    exact (ho _ (List.getElem_mem (by omega))).kb
set_option maxRecDepth 100000 in
set_option maxHeartbeats 1600000 in
theorem isSound_any (w : World) (d : Nat) (hd : d ≤ 1000) (A : Option Addr) (c : Nat) (u : List Nat) (es : List En) (h : EAt w A es) (ho : ∀ e ∈ es, EntOk d e) (hr : Rises es) (hl : es.length ≤ 100000) (hne : es ≠ []) (h2 : 0 < d → 2 ≤ es.length) :
    Calls Tryd.prog 67 #[noV (d + 1) A es.length c u] w fun x w' => x = .returned (.bool true) ∧ Below w.heap.size w w' := by
  have H := Lib.hid h
  have HO := Lib.hid ho
  have HR := Lib.hid hr
  have lp : 0 < es.length := List.length_pos_iff.2 hne
  have g2 : ¬ (es.length : Int) = 0 := by omega
  have MH := Lib.hid (fun W e (he : EntOk d e) => mayHold_ok W d e he A es.length c u)
  have GK := Lib.hid isGoodKey_any
  unfold noV at *
  clear h ho hr
  obtain ⟨D, hD⟩ : ∃ D : Int, D = ((d + 1 : Nat) : Int) := ⟨_, rfl⟩
  rw [← hD] at MH ⊢
  have g1 : ¬ D < 1 := by omega
  have G3 : (¬ (1 : Int) < D) ∨ ((1 : Int) < D ∧ ¬ (es.length : Int) = 1) := by
    rcases Nat.eq_zero_or_pos d with h0 | h0
    · exact .inl (by omega)
    · have := h2 h0
      exact .inr ⟨by omega, by omega⟩
  have LT := Lib.hid (fun k (hk : k < es.length) => lastK_lt HO.out HR.out k hk)
  have LB := Lib.hid (fun k (hk : k ≤ es.length) => lastK_bytes HO.out k hk)
  clear h2 hne hD
  go_enter Tryd.func67, Tryd.ntmps67
  go_upto_region 3 with fail
  obtain ⟨p, hp⟩ : ∃ p, p = w.heap.size := ⟨_, rfl⟩
  obtain ⟨W, hW⟩ : ∃ W, W = w.alloc (.cells #[.int .i64 D, .slice A es.length c, .string (strB u)] 79) := ⟨_, rfl⟩
  have HN1 : Hid (Held W p 79 #[.int .i64 D, .slice A es.length c, .string (strB u)]) := by rw [hW]; exact Held.new w _ _ hp
  have BW : Hid (Below w.heap.size w W) := by rw [hW]; exact (Below.refl _ _).alloc (Nat.le_refl _) _
  have b0 := HN1.out.cell 0
  have b1 := HN1.out.cell 1
  rw [← hW, ← hp]
  have HP := Lib.hid hp
  clear hW hp
  rcases G3 with g3 | ⟨g3, g4⟩
  all_goals
    go_wp2_with fail
    go_loopw [3, 29] (fun v i wr => ∃ k : Nat, k ≤ es.length ∧ i = .int .i64 k ∧ v = .string (strB (lastK es k)) ∧ Hid (Below W.heap.size W wr)) (fun _ i _ => es.length - (intOf i).toNat)
    case atStart => exact ⟨0, by omega, rfl, rfl, Below.refl _ _⟩
    case round =>
      obtain ⟨k, hk, rfl, rfl, G⟩ := hrel
      have b0 := (Held.below HN1.out G.out HN1.out.lt).cell 0
      have b1 := (Held.below HN1.out G.out HN1.out.lt).cell 1
      have b2 := (Held.below HN1.out G.out HN1.out.lt).cell 2
      by_cases hlt : k < es.length
      · have lk : (k : Int) < (es.length : Int) := by omega
        have BB : Hid (Below w.heap.size w wr) := BW.out.trans (G.out.mono BW.out.size)
        obtain ⟨g, off, rfl, x0, x1⟩ := (H.out.below BB.out).at_ hlt
        have EO := Lib.hid (HO.out _ (List.getElem_mem hlt))
        have c1 : Go.Op.bytesLess (strB es[k].1).toList (strB (lastK es k)).toList = false := by
          rw [less_strB EO.out.kb (LB.out k hk)]
          exact ltB_asymm (LT.out k hlt)
        have c2 : ((strB es[k].1).toList == (strB (lastK es k)).toList) = false := by
          rw [eq_strB EO.out.kb (LB.out k hk), decide_eq_false_iff_not]
          intro e
          have := LT.out k hlt
          rw [e, ltB_irrefl] at this
          cases this
        have KG := Lib.hid (fun W' => GK.out W' es[k].1)
        rw [decide_eq_true (show 1 ≤ es[k].1.length ∧ es[k].1.length ≤ 128 from ⟨EO.out.k1, EO.out.k2⟩)] at KG
        have MK := Lib.hid (fun W' => MH.out W' es[k] EO.out)
        have LS := Lib.hid (lastK_succ es k hlt)
        generalize es[k] = e at *
        obtain ⟨ek, ev⟩ := e
        go_upto_region 9 with fail
        obtain ⟨q, hq⟩ : ∃ q, q = wr.heap.size := ⟨_, rfl⟩
        obtain ⟨wq, hwq⟩ : ∃ wq, wq = wr.alloc (.cells #[.string (strB ek), .string (strB ev)] 77) := ⟨_, rfl⟩
        have HQ : Hid (Held wq q 77 #[.string (strB ek), .string (strB ev)]) := by rw [hwq]; exact Held.new _ _ _ hq
        have BQ : Hid (Below wr.heap.size wr wq) := by rw [hwq]; exact (Below.refl _ _).alloc (Nat.le_refl _) _
        have b0 := (Held.below (Held.below HN1.out G.out HN1.out.lt) BQ.out (Held.below HN1.out G.out HN1.out.lt).lt).cell 0
        have b1 := (Held.below (Held.below HN1.out G.out HN1.out.lt) BQ.out (Held.below HN1.out G.out HN1.out.lt).lt).cell 1
        have b2 := (Held.below (Held.below HN1.out G.out HN1.out.lt) BQ.out (Held.below HN1.out G.out HN1.out.lt).lt).cell 2
        rw [← hwq, ← hq]
        have z0 := HQ.out.cell 0
        have z1 := HQ.out.cell 1
        have GQ : Hid (Below W.heap.size W wq) := G.out.trans (BQ.out.mono G.out.size)
        clear hwq hq x0 x1
        go_wp2_with fail
        refine (KG.out _).mono ?_
        rintro e w5 ⟨rfl, rfl⟩
        go_wp2_with fail
        refine (MK.out _).mono ?_
        rintro e w6 ⟨rfl, hb6⟩
        have G6 : Hid (Below W.heap.size W w6) := GQ.out.trans (hb6.mono GQ.out.size)
        have z0 := (Held.below HQ.out hb6 HQ.out.lt).cell 0
        clear hb6 KG MK b0 b1 b2
        go_wp2_with fail
        go_roundw
        case rel => exact ⟨k + 1, by omega, by go_num, by rw [LS.out], G6.out⟩
        case measure => simp [intOf]; omega
      · obtain rfl : k = es.length := by omega
        have FIN : Hid (Below w.heap.size w wr) := BW.out.trans (G.out.mono BW.out.size)
        go_wp2_with fail
        go_ret
        exact ⟨rfl, FIN.out⟩
theorem zeros_bytes (k : Nat) : ∀ x ∈ List.replicate k 0, x < 256 := fun x hx => by have := List.eq_of_mem_replicate hx; omega
set_option maxRecDepth 100000 in
set_option maxHeartbeats 1600000 in
theorem trimRight_any (w : World) (k : Nat) (hk : k ≤ 100000) :
    Calls Tryd.prog 76 #[.string (strB (List.replicate k 0)), .int .u8 0] w fun x w' => x = .returned (.string (strB [])) ∧ w = w' := by
  go_enter Tryd.func76, Tryd.ntmps76
  go_wp2_with fail
  go_loop [0] (fun v => ∃ j : Nat, j ≤ k ∧ v = .string (strB (List.replicate j 0))) (fun v => match v with | .string s => s.size | _ => 0)
  case atStart => exact ⟨k, Nat.le_refl _, rfl⟩
  case round =>
    obtain ⟨j, hj, rfl⟩ := hrel
    have sz := strB_size (List.replicate j 0)
    rw [List.length_replicate] at sz
    by_cases h0 : 0 < j
    · have hat : ∀ hx : j - 1 < (strB (List.replicate j 0)).size, ((strB (List.replicate j 0))[j - 1]'hx).toNat = 0 := fun hx => by
        rw [strB_at (zeros_bytes j), List.getD_eq_getElem?_getD, List.getElem?_replicate]
        split <;> rfl
      have hex : (strB (List.replicate j 0)).extract 0 (j - 1) = strB (List.replicate (j - 1) 0) := by
        rw [strB_extract _ (zeros_bytes j), List.take_replicate, List.drop_zero]
        congr 2
        omega
      have HEX := Lib.hid hex
      have sz2 : (strB (List.replicate (j - 1) 0)).size = j - 1 := by rw [strB_size, List.length_replicate]
      have HS2 := Lib.hid sz2
      clear hex sz2
      generalize strB (List.replicate j 0) = s at *
      have hx : j - 1 < s.size := by omega
      have h0' := hat hx
      have i0 : (0 : Int) < (j : Int) := by omega
      have i1 : (j : Int) - 1 = ((j - 1 : Nat) : Int) := by omega
      have i2 : j - 1 < j := by omega
      have i3 : j - 1 ≤ j := by omega
      clear hat
      go_wp2_with fail
      go_round
      case rel => exact ⟨j - 1, by omega, by rw [HEX.out]⟩
      case measure => rw [HEX.out]; simp only; rw [HS2.out]; omega
    · obtain rfl : j = 0 := by omega
      go_wp2_with fail
      go_ret
      exact ⟨rfl, rfl⟩
end Go.Proofs.YtnogmgnbhcmajaaDoor
