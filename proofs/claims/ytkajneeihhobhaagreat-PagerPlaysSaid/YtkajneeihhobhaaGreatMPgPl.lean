/-
  PagerPlays: the law's walk.
-/
import Derived.Test.YtkajneeihhobhaaGreatMPgPlM
namespace Go.Proofs.YtkajneeihhobhaaGreat.pagerPlays
open Go.ChangeShapes Go.WideShapes Go.ChangeAt Go.RowKit Pgr Wal

theorem clamp_small {M : Nat} (h0 : 1 ≤ M) (h : M ≤ 4096) : clampN (M : Int) = M := by
  unfold clampN
  rw [if_neg (by omega), if_neg (by omega)]
  omega
theorem side_of {w0 w : World} {p d reg N : Nat} {tx : Value} {C : List Com} {P : PS} (h : HoldP w0 w p d reg N tx C P) : PSide w0 w true p d reg N tx C P :=
  ⟨h.pag, h.inv, h.ids, h.below, h.new, by rw [h.calm]; omega, fun _ => h.calm⟩
set_option maxRecDepth 100000 in
set_option maxHeartbeats 12800000 in
theorem walk (a b : Nat) (A : Option Addr) (n c : Nat) (l : Nat → Nat × Int × ByteArray) (w : World) (ha : a < 256) (hb : b < 256) (hl : POps w A n l) (hn : n ≤ 5800000000000) :
    Calls Tryz.prog 3 #[.int .u8 (a : Int), .int .u8 (b : Int), .slice A n c] w fun e w' => e = .returned (.bool true) ∧ Below w.heap.size w w' := by
  have HL1 := Lib.hid hl
  have FX := Lib.hid (pfixed_any w)
  have SZ := fun w0 => size_any4 w0 a b ha hb
  obtain ⟨reg, hreg⟩ : ∃ reg, reg = 2 + b % 24 := ⟨_, rfl⟩
  obtain ⟨N, hN⟩ : ∃ N, N = 1 + a % 24 := ⟨_, rfl⟩
  rw [← hreg, ← hN] at SZ
  obtain ⟨M, hM⟩ : ∃ M, M = reg + N := ⟨_, rfl⟩
  rw [← hM] at SZ
  have SZ := fun w0 => Lib.hid (SZ w0)
  obtain ⟨rg, hrg⟩ : ∃ rg, rg = reg - 1 := ⟨_, rfl⟩
  have NR : Hid (2 ≤ reg ∧ reg ≤ 25 ∧ 1 ≤ N ∧ N ≤ 24 ∧ M = reg + N ∧ rg = reg - 1) := ⟨by omega, by omega, by omega, by omega, hM, hrg⟩
  have e1 : (M : Int) - (reg : Int) = (N : Int) := by omega
  have e2 : (reg : Int) - 1 = (rg : Int) := by omega
  have m1 : (M : Int) ≤ 49 := by omega
  have r1 : (reg : Int) ≤ 25 := by omega
  have r2 : (2 : Int) ≤ (reg : Int) := by omega
  have ni : (n : Int) ≤ 5800000000000 := by omega
  clear hl hn hreg hN hM hrg
  go_enter Tryz.func3, Tryz.ntmps3
  go_wp2_with fail
  refine FX.out.mono ?_
  rintro e w0 ⟨rfl, hb0⟩
  have B0 := Lib.hid hb0
  have SZ := SZ w0
  clear hb0 FX
  go_wp2_with fail
  refine SZ.out.mono ?_
  rintro e wz ⟨rfl, rfl⟩
  have ND := new_any w0 (M : Int)
  rw [clamp_small (by have := NR.out; omega) (by have := NR.out; omega)] at ND
  have ND := Lib.hid ND
  clear SZ
  go_wp2_with fail
  refine ND.out.mono ?_
  rintro e w1 ⟨d, F, rfl, hD, hb, hF⟩
  have MK := l_make w w1 d F M reg hD (B0.out.trans (hb.mono B0.out.size)) (fun y hy => Nat.le_trans B0.out.size (hF y hy)) (by have := NR.out; omega) (by have := NR.out; omega)
  rw [show M - reg = N by have := NR.out; omega] at MK
  have MK := Lib.hid MK
  clear ND hD hb hF B0
  go_wp2_with fail
  refine MK.out.mono ?_
  rintro e w2 ⟨p, rfl, P, hP⟩
  have P2 := Lib.hid (side_of hP)
  clear MK hP
  go_wp2_with fail
  have PS3 : Hid (PSide w (w2.alloc (.cells #[.int .i64 (N : Int), .int .i64 (rg : Int), .slice none 0 0] 35)) true p d reg N (.pointer none) [] P) := P2.out.under ((Below.refl _ _).alloc (Nat.le_refl _) _)
  have RB3 : Hid (RBase w (w2.alloc (.cells #[.int .i64 (N : Int), .int .i64 (rg : Int), .slice none 0 0] 35)) w2.heap.size N (reg - 1) [] (.slice none 0 0) [] [w2.heap.size]) := by
    show RBase _ _ _ _ _ _ _ _ _
    rw [← NR.out.2.2.2.2.2]
    exact ⟨Held.new _ _ _ rfl, PutsAt.nil _ _, P2.out.below.size, fun x => by simp [Value.ownBlock]⟩
  have FAR : Hid (∀ x ∈ [w2.heap.size], x ∉ P.foot) := fun x hx hm => by
    have h1 : x = w2.heap.size := by simpa using hx
    have := P2.out.lt x hm
    omega
  have r0 : (w2.alloc (.cells #[.int .i64 (N : Int), .int .i64 (rg : Int), .slice none 0 0] 35)).cell? ⟨w2.heap.size, 0, none⟩ = some (.int .i64 (N : Int)) := (Held.new w2 35 #[.int .i64 (N : Int), .int .i64 (rg : Int), .slice none 0 0] rfl).cell 0
  generalize w2.alloc (.cells #[.int .i64 (N : Int), .int .i64 (rg : Int), .slice none 0 0] 35) = w3 at *
  generalize w2.heap.size = r at *
  have BK : Hid (Calls Tryz.prog 13 #[.pointer (some ⟨p, 0, none⟩)] w3.drew fun e w' => e = .returned (.int .i64 (N : Int)) ∧ ∃ q, w' = w3.drew.drewN q) := by
    have h1 := PS3.out.under (Below.refl _ _).drew
    have := blocks_any w3.drew P _ h1.pag
    rwa [h1.ids.1, h1.ids.2.2.2] at this
  clear P2
  refine wp_region_noPanic ?_
  refine wp_region_held_drew (S := fun w' => w'.cell? ⟨r, 0, none⟩ = some (.int .i64 (N : Int))) (by kernel_rfl) r0 (fun hHeld => ?_)
  refine take_ (i := 0) (v := ?_) 44 rfl rfl (by kernel_rfl) (by kernel_rfl) (by kernel_rfl) (fun _ _ _ h => h) (Or.inl ⟨by rfl, ?_⟩) (by assumption) ?_
  rotate_left
  · (intro wS hSw; (try dsimp only at hSw); go_simp; try with_reducible rfl)
  simp only [Act.put, List.setIfInBounds_toArray, List.set_cons_zero, List.set_cons_succ]
  refine take_ (i := 1) (v := ?_) 45 rfl rfl (by kernel_rfl) (by kernel_rfl) (by kernel_rfl) (fun _ _ _ h => h) (Or.inl ⟨by rfl, ?_⟩) (by assumption) ?_
  rotate_left
  · (intro wS hSw; (try dsimp only at hSw); go_simp; try with_reducible rfl)
  simp only [Act.put, List.setIfInBounds_toArray, List.set_cons_zero, List.set_cons_succ]
  refine take_ (i := 2) (v := ?_) 46 rfl rfl (by kernel_rfl) (by kernel_rfl) (by kernel_rfl) (fun _ _ _ h => h) (Or.inl ⟨by rfl, ?_⟩) (by assumption) ?_
  rotate_left
  · (intro wS hSw; (try dsimp only at hSw); go_simp; try with_reducible rfl)
  simp only [Act.put, List.setIfInBounds_toArray, List.set_cons_zero, List.set_cons_succ]
  refine take_ (i := 3) (v := ?_) 47 rfl rfl (by kernel_rfl) (by kernel_rfl) (by kernel_rfl) (fun _ _ _ h => h) (Or.inl ⟨by rfl, ?_⟩) (by assumption) ?_
  rotate_left
  · (intro wS hSw; (try dsimp only at hSw); go_simp; try with_reducible rfl)
  simp only [Act.put, List.setIfInBounds_toArray, List.set_cons_zero, List.set_cons_succ]
  refine take_ (i := 4) (v := ?_) 48 rfl rfl (by kernel_rfl) (by kernel_rfl) (by kernel_rfl) (fun _ _ _ h => h) (Or.inl ⟨by rfl, ?_⟩) (by assumption) ?_
  rotate_left
  · (intro wS hSw; (try dsimp only at hSw); go_simp; try with_reducible rfl)
  simp only [Act.put, List.setIfInBounds_toArray, List.set_cons_zero, List.set_cons_succ]
  refine take_ (i := 5) (v := ?_) 49 rfl rfl (by kernel_rfl) (by kernel_rfl) (by kernel_rfl) (fun _ _ _ h => h) (Or.inl ⟨by rfl, ?_⟩) (by assumption) ?_
  rotate_left
  · (intro wS hSw; (try dsimp only at hSw); go_simp; try with_reducible rfl)
  simp only [Act.put, List.setIfInBounds_toArray, List.set_cons_zero, List.set_cons_succ]
  refine take_ (i := 6) (v := ?_) 50 rfl rfl (by kernel_rfl) (by kernel_rfl) (by kernel_rfl) (fun _ _ _ h => h) (Or.inl ⟨by rfl, ?_⟩) (by assumption) ?_
  rotate_left
  · (intro wS hSw; (try dsimp only at hSw); go_simp; try with_reducible rfl)
  simp only [Act.put, List.setIfInBounds_toArray, List.set_cons_zero, List.set_cons_succ]
  refine take_ (i := 7) (v := ?_) 51 rfl rfl (by kernel_rfl) (by kernel_rfl) (by kernel_rfl) (fun _ _ _ h => h) (Or.inl ⟨by rfl, ?_⟩) (by assumption) ?_
  rotate_left
  · (intro wS hSw; (try dsimp only at hSw); go_simp; try with_reducible rfl)
  simp only [Act.put, List.setIfInBounds_toArray, List.set_cons_zero, List.set_cons_succ]
  refine take_ (i := 9) (v := ?_) 53 rfl rfl (by kernel_rfl) (by kernel_rfl) (by kernel_rfl) (fun _ _ _ h => h) (Or.inl ⟨by rfl, ?_⟩) (by assumption) ?_
  rotate_left
  · (intro wS hSw; (try dsimp only at hSw); go_simp; try with_reducible rfl)
  simp only [Act.put, List.setIfInBounds_toArray, List.set_cons_zero, List.set_cons_succ]
  refine take_ (i := 10) (v := ?_) 54 rfl rfl (by kernel_rfl) (by kernel_rfl) (by kernel_rfl) (fun _ _ _ h => h) (Or.inl ⟨by rfl, ?_⟩) (by assumption) ?_
  rotate_left
  · (intro wS hSw; (try dsimp only at hSw); go_simp; try with_reducible rfl)
  simp only [Act.put, List.setIfInBounds_toArray, List.set_cons_zero, List.set_cons_succ]
  refine take_ (i := 11) (v := ?_) 55 rfl rfl (by kernel_rfl) (by kernel_rfl) (by kernel_rfl) (fun _ _ _ h => h) (Or.inl ⟨by rfl, ?_⟩) (by assumption) ?_
  rotate_left
  · (intro wS hSw; (try dsimp only at hSw); go_simp; try with_reducible rfl)
  simp only [Act.put, List.setIfInBounds_toArray, List.set_cons_zero, List.set_cons_succ]
  refine take_ (i := 12) (v := ?_) 56 rfl rfl (by kernel_rfl) (by kernel_rfl) (by kernel_rfl) (fun _ _ _ h => h) (Or.inl ⟨by rfl, ?_⟩) (by assumption) ?_
  rotate_left
  · (intro wS hSw; (try dsimp only at hSw); go_simp; try with_reducible rfl)
  simp only [Act.put, List.setIfInBounds_toArray, List.set_cons_zero, List.set_cons_succ]
  refine one_ (i := 8) _ (by kernel_rfl) rfl (fun K hK => ?_)
  go_simp
  refine BK.out.mono ?_
  rintro e w4 ⟨rfl, q, hw4⟩
  have B4 : Hid (Below w3.heap.size w3 w4) := by show Below _ _ _; rw [hw4]; exact ((Below.refl _ _).drew).trans (show Below w3.heap.size w3.drew (w3.drew.drewN q) from punder_drewN w3.drew q)
  have r0' : w4.cell? ⟨r, 0, none⟩ = some (.int .i64 (N : Int)) := (B4.out.cell (p := ⟨r, 0, none⟩) RB3.out.pg.lt).trans r0
  clear hw4 BK hHeld r0
  go_wp2_with fail
  refine hK.out _ _ r0' (fun hHeld => ?_)
  clear hK K
  refine take_ (i := 13) (v := ?_) 57 rfl rfl (by kernel_rfl) (by kernel_rfl) (by kernel_rfl) (fun _ _ _ h => h) (Or.inl ⟨by rfl, ?_⟩) (by assumption) ?_
  rotate_left
  · (intro wS hSw; (try dsimp only at hSw); go_simp; try with_reducible rfl)
  simp only [Act.put, List.setIfInBounds_toArray, List.set_cons_zero, List.set_cons_succ]
  refine take_ (i := 14) (v := ?_) 58 rfl rfl (by kernel_rfl) (by kernel_rfl) (by kernel_rfl) (fun _ _ _ h => h) (Or.inl ⟨by rfl, ?_⟩) (by assumption) ?_
  rotate_left
  · (intro wS hSw; (try dsimp only at hSw); go_simp; try with_reducible rfl)
  simp only [Act.put, List.setIfInBounds_toArray, List.set_cons_zero, List.set_cons_succ]
  refine wpAnyH_done (by kernel_rfl) ?_ _
  refine NoPanic.normal ?_
  clear r0' hHeld
  have PS4 := Lib.hid (PS3.out.under B4.out)
  have RB4 := Lib.hid (RB3.out.under B4.out)
  have BG := Lib.hid (s_begin w w4 true p d reg N [] P PS4.out)
  clear PS3 RB3 B4
  go_wp2_with fail
  refine BG.out.mono ?_
  rintro e w5 ⟨t, tm, rfl, hpo, ht, htm, ho⟩
  have DU0 : Hid (Duo w (w5.alloc (.cells #[.pointer (some ⟨r, 0, none⟩), .slice none 0 0] 43)) true p d reg N t tm r w5.heap.size (fun _ => none) [] [] [] P (.slice none 0 0) (.slice none 0 0) [] [r] [w5.heap.size]) := duo_begin PS4.out RB4.out FAR.out (Sims.nil N) hpo ht htm ho
  clear hpo ht htm ho BG PS4 RB4 FAR
  go_wp2_with fail
  go_loopw [10, 11, 13, 14, 15] (fun pv ev tv wv iv wr => ∃ (k p t tm t2 : Nat) (g : Com) (C : List Com) (L : List (Nat × List Nat)) (Ls : List (List (Nat × List Nat))) (P : PS) (v vL : Value) (vs : List Value) (KR K2 : List Nat), k ≤ n ∧ pv = .pointer (some ⟨p, 0, none⟩) ∧ ev = .int .i64 0 ∧ tv = .pointer (some ⟨t, 0, none⟩) ∧ wv = .pointer (some ⟨t2, 0, none⟩) ∧ iv = .int .i64 (k : Nat) ∧ Ls.length ≤ k ∧ Duo w wr true p d reg N t tm r t2 g C L Ls P v vL vs KR K2) (fun _ _ _ _ iv _ => n - (intOf iv).toNat)
  case atStart => exact ⟨0, _, _, _, _, _, _, _, _, _, _, _, _, _, _, by omega, rfl, rfl, rfl, rfl, rfl, by simp, DU0.out⟩
  case round =>
    clear DU0
    obtain ⟨k, p, t, tm, t2, g, C, L, Ls, P, v, vL, vs, KR, K2, hk, rfl, rfl, rfl, rfl, rfl, hLs, hD⟩ := hrel
    have DU := Lib.hid hD
    have HLS := Lib.hid hLs
    clear hD hLs
    by_cases hlt : k < n
    · have hk1 : (k : Int) < (n : Int) := by omega
      have hk0 : (0 : Int) ≤ (k : Int) := by omega
      obtain ⟨bb, off, rfl, hbw, hcl⟩ := HL1.out.2 (by omega)
      have hcl := hcl k hlt
      have x0 : wr.cell? ⟨bb, off + k * 3, none⟩ = some (.int .u8 ((l k).1 : Int)) := (DU.out.po.ps.below.cell (p := ⟨bb, off + k * 3, none⟩) hbw).trans hcl.1
      have x1 : wr.cell? ⟨bb, off + k * 3 + 1, none⟩ = some (.int .i64 (l k).2.1) := (DU.out.po.ps.below.cell (p := ⟨bb, off + k * 3 + 1, none⟩) hbw).trans hcl.2.1
      have x2 : wr.cell? ⟨bb, off + k * 3 + 2, none⟩ = some (.string (l k).2.2) := (DU.out.po.ps.below.cell (p := ⟨bb, off + k * 3 + 2, none⟩) hbw).trans hcl.2.2
      obtain ⟨y0, _, _, _⟩ := HL1.out.1 k hlt
      obtain ⟨kd, hkd⟩ : ∃ kd, kd = (l k).1 := ⟨_, rfl⟩
      obtain ⟨z, hz⟩ : ∃ z, z = (l k).2.1 := ⟨_, rfl⟩
      obtain ⟨s, hs⟩ : ∃ s, s = (l k).2.2 := ⟨_, rfl⟩
      rw [← hkd] at y0 x0
      rw [← hz] at x1
      rw [← hs] at x2
      have K8 : Hid (kd < 256) := y0
      have kb : (kd : Int) < 256 := by omega
      have kb0 : (0 : Int) ≤ (kd : Int) := by omega
      have D8 := Lib.hid (DU.out.under ((Below.refl _ _).alloc (Nat.le_refl _) (.cells #[.int .u8 (kd : Int), .int .i64 z, .string s] 45)))
      have KN : Hid (k < n ∧ n ≤ 5800000000000) := ⟨hlt, by omega⟩
      clear hkd hz hs hcl hbw y0 DU
      have OB := Lib.hid (Held.new wr 45 #[.int .u8 (kd : Int), .int .i64 z, .string s] rfl)
      go_upto_region 15 with fail
      generalize wr.alloc (.cells #[.int .u8 (kd : Int), .int .i64 z, .string s] 45) = w8 at *
      generalize wr.heap.size = q8 at *
      have o0 : w8.cell? ⟨q8, 0, none⟩ = some (.int .u8 (kd : Int)) := OB.out.cell 0
      clear x0 x1 x2
      by_cases k0 : (kd : Int) % 6 = 0
      · have o1 : w8.cell? ⟨q8, 1, none⟩ = some (.int .i64 z) := OB.out.cell 1
        have o2 : w8.cell? ⟨q8, 2, none⟩ = some (.string s) := OB.out.cell 2
        have ST := Lib.hid (step_write w w8 true p d reg N t tm r t2 g C L Ls P v vL vs KR K2 kd z s D8.out k0 K8.out)
        clear D8
        go_wp2_with fail
        refine ST.out.mono ?_
        rintro e w9 ⟨g', L', vL', K', rfl, hD⟩
        have D9 := Lib.hid hD
        clear hD ST o0 o1 o2 OB
        go_wp2_with fail
        go_roundw
        case rel => exact ⟨k + 1, _, _, _, _, _, _, _, _, _, _, _, _, _, _, by omega, rfl, rfl, rfl, rfl, by go_num, by have := HLS.out; omega, D9.out⟩
        case measure => simp [intOf]; omega
      · by_cases k1 : (kd : Int) % 6 = 1
        · have o1 : w8.cell? ⟨q8, 1, none⟩ = some (.int .i64 z) := OB.out.cell 1
          have o2 : w8.cell? ⟨q8, 2, none⟩ = some (.string s) := OB.out.cell 2
          have ST := Lib.hid (step_read w w8 true p d reg N t tm r t2 g C L Ls P v vL vs KR K2 kd z s D8.out k0 K8.out (by have := HLS.out; have := KN.out; omega))
          clear D8 k0
          go_wp2_with fail
          refine ST.out.mono ?_
          rintro e w9 ⟨rfl, hD⟩
          have D9 := Lib.hid hD
          clear hD ST o0 o1 o2 OB
          go_wp2_with fail
          go_roundw
          case rel => exact ⟨k + 1, _, _, _, _, _, _, _, _, _, _, _, _, _, _, by omega, rfl, rfl, rfl, rfl, by go_num, by have := HLS.out; omega, D9.out⟩
          case measure => simp [intOf]; omega
        · by_cases k2 : (kd : Int) % 6 = 2
          · clear k0 k1
            have TC := t_commit w w8 p d reg N t tm r t2 g C L Ls P v vL vs KR K2 D8.out (by have := D8.out.sims.len; have := HLS.out; have := KN.out; omega) (by have := NR.out; omega)
            have UC := fun w9 rb9 rt9 h9 => u_commit w w9 r t2 reg N L Ls v vL vs KR K2 rb9 rt9 h9 (by have := D8.out.few; omega) (by have := HLS.out; have := KN.out; omega)
            rw [← D8.out.sims.len] at UC
            have CL : Hid ((comS Ls L L.length (fitL reg L)).length ≤ k + 1) := by
              have h1 := comS_len Ls L L.length (fitL reg L)
              have h2 := HLS.out
              show _ ≤ _
              omega
            obtain ⟨X, hX⟩ : ∃ X, X = comX C.length L (fitL reg L) := ⟨_, rfl⟩
            obtain ⟨Y, hY⟩ : ∃ Y, Y = comY L (fitL reg L) := ⟨_, rfl⟩
            rw [← hX, ← hY] at TC
            rw [← hX, ← hY] at UC
            have TC := Lib.hid TC
            clear hX hY
            go_wp2_with fail
            refine TC.out.mono ?_
            rintro e w9 ⟨rfl, P1, ps1, te1, ho1, hf1⟩
            obtain ⟨rb9, rt9⟩ := D8.out.over ho1
            have UC := Lib.hid (UC w9 rb9 rt9 ps1.below.size)
            have Q1 : Hid (PSide w w9 true p d reg N (.pointer none) (comS C g L.length (fitL reg L)) P1 ∧ TxEnd w9 P1 t ∧ ∀ x ∈ P1.foot, x ∈ P.foot ∨ w8.heap.size ≤ x) := ⟨ps1, te1, hf1⟩
            clear ps1 te1 ho1 hf1 rb9 rt9 TC o0 OB
            go_wp2_with fail
            refine UC.out.mono ?_
            rintro e w10 ⟨rfl, v', vs', K', rb10, ho10, hk10⟩
            have MD0 := D8.out.committed (fitL reg L) Q1.out.1 Q1.out.2.1 Q1.out.2.2 rb10 ho10 hk10
            obtain ⟨C', hC'⟩ : ∃ C', C' = comS C g L.length (fitL reg L) := ⟨_, rfl⟩
            obtain ⟨Ls', hLs'⟩ : ∃ Ls', Ls' = comS Ls L L.length (fitL reg L) := ⟨_, rfl⟩
            rw [← hC', ← hLs'] at MD0
            rw [← hLs'] at CL
            have MD := Lib.hid MD0
            have HL := CL
            clear MD0 rb10 ho10 hk10 UC Q1 D8 hC' hLs' CL HLS
            obtain ⟨A9, c9, hv9⟩ := pslice MD.out.rb.puts.row
            have x2 : w10.cell? ⟨r, 2, none⟩ = some (.slice A9 Ls'.length c9) := by rw [← hv9]; exact MD.out.rb.pg.cell 2
            have DN := s_done w w10.drew true p d reg N _ C' P1 (MD.out.ps.under (Below.refl _ _).drew)
            rw [MD.out.sims.len] at DN
            have RL : Hid (r < w10.heap.size) := MD.out.rb.pg.lt
            obtain ⟨m9, hm9⟩ : ∃ m9, m9 = Ls'.length := ⟨_, rfl⟩
            rw [← hm9] at x2 DN
            have DN := Lib.hid DN
            clear hm9 hv9
            go_upto_region 37 with fail
            refine wp_region_noPanic ?_
            refine wp_region_held_drew (S := fun w' => w'.cell? ⟨r, 2, none⟩ = some (.slice A9 m9 c9)) (by kernel_rfl) x2 (fun hHeld => ?_)
            refine take_ (i := 0) (v := ?_) 154 rfl rfl (by kernel_rfl) (by kernel_rfl) (by kernel_rfl) (fun _ _ _ h => h) (Or.inl ⟨by rfl, ?_⟩) (by assumption) ?_
            rotate_left
            · (intro wS hSw; (try dsimp only at hSw); go_simp; try with_reducible rfl)
            simp only [Act.put, List.setIfInBounds_toArray, List.set_cons_zero, List.set_cons_succ]
            refine take_ (i := 2) (v := ?_) 156 rfl rfl (by kernel_rfl) (by kernel_rfl) (by kernel_rfl) (fun _ _ _ h => h) (Or.inl ⟨by rfl, ?_⟩) (by assumption) ?_
            rotate_left
            · (intro wS hSw; (try dsimp only at hSw); go_simp; try with_reducible rfl)
            simp only [Act.put, List.setIfInBounds_toArray, List.set_cons_zero, List.set_cons_succ]
            refine take_ (i := 3) (v := ?_) 157 rfl rfl (by kernel_rfl) (by kernel_rfl) (by kernel_rfl) (fun _ _ _ h => h) (Or.inl ⟨by rfl, ?_⟩) (by assumption) ?_
            rotate_left
            · (intro wS hSw; (try dsimp only at hSw); go_simp; try with_reducible rfl)
            simp only [Act.put, List.setIfInBounds_toArray, List.set_cons_zero, List.set_cons_succ]
            refine take_ (i := 4) (v := ?_) 158 rfl rfl (by kernel_rfl) (by kernel_rfl) (by kernel_rfl) (fun _ _ _ h => h) (Or.inl ⟨by rfl, ?_⟩) (by assumption) ?_
            rotate_left
            · (intro wS hSw; (try dsimp only at hSw); go_simp; try with_reducible rfl)
            simp only [Act.put, List.setIfInBounds_toArray, List.set_cons_zero, List.set_cons_succ]
            refine take_ (i := 5) (v := ?_) 159 rfl rfl (by kernel_rfl) (by kernel_rfl) (by kernel_rfl) (fun _ _ _ h => h) (Or.inl ⟨by rfl, ?_⟩) (by assumption) ?_
            rotate_left
            · (intro wS hSw; (try dsimp only at hSw); go_simp; try with_reducible rfl)
            simp only [Act.put, List.setIfInBounds_toArray, List.set_cons_zero, List.set_cons_succ]
            refine take_ (i := 6) (v := ?_) 160 rfl rfl (by kernel_rfl) (by kernel_rfl) (by kernel_rfl) (fun _ _ _ h => h) (Or.inl ⟨by rfl, ?_⟩) (by assumption) ?_
            rotate_left
            · (intro wS hSw; (try dsimp only at hSw); go_simp; try with_reducible rfl)
            simp only [Act.put, List.setIfInBounds_toArray, List.set_cons_zero, List.set_cons_succ]
            refine one_ (i := 1) _ (by kernel_rfl) rfl (fun K hK => ?_)
            go_simp
            refine DN.out.mono ?_
            rintro e w20 ⟨rfl, q, hw20⟩
            have B20 : Hid (Below w10.heap.size w10 w20) := by show Below _ _ _; rw [hw20]; exact ((Below.refl _ _).drew).trans (show Below w10.heap.size w10.drew (w10.drew.drewN q) from punder_drewN w10.drew q)
            have M20 : Hid (Mid w w20 p d reg N t r C' Ls' P1 v' vs' K') := by show Mid _ _ _ _ _ _ _ _ _ _ _ _ _ _; rw [hw20]; exact (MD.out.drewN 1).drewN q
            have x2' : w20.cell? ⟨r, 2, none⟩ = some (.slice A9 m9 c9) := (B20.out.cell (p := ⟨r, 2, none⟩) RL.out).trans x2
            obtain ⟨p9, d1, d2⟩ := M20.out.te
            have DT := Lib.hid (dirty_nil w20 p9 t d1 d2)
            clear hw20 DN MD hHeld x2 d1 d2
            go_wp2_with fail
            refine hK.out _ _ x2' (fun hHeld => ?_)
            clear hK K
            refine take_ (i := 7) (v := ?_) 161 rfl rfl (by kernel_rfl) (by kernel_rfl) (by kernel_rfl) (fun _ _ _ h => h) (Or.inl ⟨by rfl, ?_⟩) (by assumption) ?_
            rotate_left
            · (intro wS hSw; (try dsimp only at hSw); go_simp; try with_reducible rfl)
            simp only [Act.put, List.setIfInBounds_toArray, List.set_cons_zero, List.set_cons_succ]
            refine take_ (i := 8) (v := ?_) 162 rfl rfl (by kernel_rfl) (by kernel_rfl) (by kernel_rfl) (fun _ _ _ h => h) (Or.inl ⟨by rfl, ?_⟩) (by assumption) ?_
            rotate_left
            · (intro wS hSw; (try dsimp only at hSw); go_simp; try with_reducible rfl)
            simp only [Act.put, List.setIfInBounds_toArray, List.set_cons_zero, List.set_cons_succ]
            refine take_ (i := 9) (v := ?_) 163 rfl rfl (by kernel_rfl) (by kernel_rfl) (by kernel_rfl) (fun _ _ _ h => h) (Or.inl ⟨by rfl, ?_⟩) (by assumption) ?_
            rotate_left
            · (intro wS hSw; (try dsimp only at hSw); go_simp; try with_reducible rfl)
            simp only [Act.put, List.setIfInBounds_toArray, List.set_cons_zero, List.set_cons_succ]
            refine one_ (i := 10) _ (by kernel_rfl) rfl (fun K hK => ?_)
            go_simp
            refine DT.out.mono ?_
            rintro e w' ⟨rfl, rfl⟩
            go_wp2_with fail
            refine hK.out _ _ x2' (fun hHeld => ?_)
            clear hK K
            refine take_ (i := 11) (v := ?_) 165 rfl rfl (by kernel_rfl) (by kernel_rfl) (by kernel_rfl) (fun _ _ _ h => h) (Or.inl ⟨by rfl, ?_⟩) (by assumption) ?_
            rotate_left
            · (intro wS hSw; (try dsimp only at hSw); go_simp; try with_reducible rfl)
            simp only [Act.put, List.setIfInBounds_toArray, List.set_cons_zero, List.set_cons_succ]
            refine take_ (i := 12) (v := ?_) 166 rfl rfl (by kernel_rfl) (by kernel_rfl) (by kernel_rfl) (fun _ _ _ h => h) (Or.inl ⟨by rfl, ?_⟩) (by assumption) ?_
            rotate_left
            · (intro wS hSw; (try dsimp only at hSw); go_simp; try with_reducible rfl)
            simp only [Act.put, List.setIfInBounds_toArray, List.set_cons_zero, List.set_cons_succ]
            refine wpAnyH_done (by kernel_rfl) ?_ _
            refine NoPanic.normal ?_
            clear x2' hHeld DT
            have BG := Lib.hid (s_begin w w20 true p d reg N C' P1 M20.out.ps)
            go_wp2_with fail
            refine BG.out.mono ?_
            rintro e w21 ⟨t', tm', rfl, hpo, ht, htm, ho⟩
            have DU : Hid (Duo w (w21.alloc (.cells #[.pointer (some ⟨r, 0, none⟩), .slice none 0 0] 43)) true p d reg N t' tm' r w21.heap.size (fun _ => none) C' [] Ls' P1 v' (.slice none 0 0) vs' K' [w21.heap.size]) := M20.out.begin hpo ht htm ho
            clear hpo ht htm ho BG M20 B20
            go_wp2_with fail
            go_roundw
            case rel => exact ⟨k + 1, _, _, _, _, _, _, _, _, _, _, _, _, _, _, by omega, rfl, rfl, rfl, rfl, by go_num, HL.out, DU.out⟩
            case measure => simp [intOf]; omega
          · by_cases k3 : (kd : Int) % 6 = 3
            · clear k0 k1 k2
              have AB := Lib.hid (s_abort w w8 true p d reg N t tm g C P D8.out.po)
              go_wp2_with fail
              refine AB.out.mono ?_
              rintro e w9 ⟨rfl, ps9, te9, ho9⟩
              have MD := Lib.hid (D8.out.ended ps9 te9 ho9)
              have HL : Hid (Ls.length ≤ k + 1) := Nat.le_succ_of_le HLS.out
              clear ps9 te9 ho9 AB D8 HLS o0 OB
              obtain ⟨A9, c9, hv9⟩ := pslice MD.out.rb.puts.row
              have x2 : w9.cell? ⟨r, 2, none⟩ = some (.slice A9 Ls.length c9) := by rw [← hv9]; exact MD.out.rb.pg.cell 2
              have DN := s_done w w9.drew true p d reg N _ C P (MD.out.ps.under (Below.refl _ _).drew)
              rw [MD.out.sims.len] at DN
              have RL : Hid (r < w9.heap.size) := MD.out.rb.pg.lt
              obtain ⟨m9, hm9⟩ : ∃ m9, m9 = Ls.length := ⟨_, rfl⟩
              rw [← hm9] at x2 DN
              have DN := Lib.hid DN
              clear hm9 hv9
              go_upto_region 37 with fail
              refine wp_region_noPanic ?_
              refine wp_region_held_drew (S := fun w' => w'.cell? ⟨r, 2, none⟩ = some (.slice A9 m9 c9)) (by kernel_rfl) x2 (fun hHeld => ?_)
              refine take_ (i := 0) (v := ?_) 154 rfl rfl (by kernel_rfl) (by kernel_rfl) (by kernel_rfl) (fun _ _ _ h => h) (Or.inl ⟨by rfl, ?_⟩) (by assumption) ?_
              rotate_left
              · (intro wS hSw; (try dsimp only at hSw); go_simp; try with_reducible rfl)
              simp only [Act.put, List.setIfInBounds_toArray, List.set_cons_zero, List.set_cons_succ]
              refine take_ (i := 2) (v := ?_) 156 rfl rfl (by kernel_rfl) (by kernel_rfl) (by kernel_rfl) (fun _ _ _ h => h) (Or.inl ⟨by rfl, ?_⟩) (by assumption) ?_
              rotate_left
              · (intro wS hSw; (try dsimp only at hSw); go_simp; try with_reducible rfl)
              simp only [Act.put, List.setIfInBounds_toArray, List.set_cons_zero, List.set_cons_succ]
              refine take_ (i := 3) (v := ?_) 157 rfl rfl (by kernel_rfl) (by kernel_rfl) (by kernel_rfl) (fun _ _ _ h => h) (Or.inl ⟨by rfl, ?_⟩) (by assumption) ?_
              rotate_left
              · (intro wS hSw; (try dsimp only at hSw); go_simp; try with_reducible rfl)
              simp only [Act.put, List.setIfInBounds_toArray, List.set_cons_zero, List.set_cons_succ]
              refine take_ (i := 4) (v := ?_) 158 rfl rfl (by kernel_rfl) (by kernel_rfl) (by kernel_rfl) (fun _ _ _ h => h) (Or.inl ⟨by rfl, ?_⟩) (by assumption) ?_
              rotate_left
              · (intro wS hSw; (try dsimp only at hSw); go_simp; try with_reducible rfl)
              simp only [Act.put, List.setIfInBounds_toArray, List.set_cons_zero, List.set_cons_succ]
              refine take_ (i := 5) (v := ?_) 159 rfl rfl (by kernel_rfl) (by kernel_rfl) (by kernel_rfl) (fun _ _ _ h => h) (Or.inl ⟨by rfl, ?_⟩) (by assumption) ?_
              rotate_left
              · (intro wS hSw; (try dsimp only at hSw); go_simp; try with_reducible rfl)
              simp only [Act.put, List.setIfInBounds_toArray, List.set_cons_zero, List.set_cons_succ]
              refine take_ (i := 6) (v := ?_) 160 rfl rfl (by kernel_rfl) (by kernel_rfl) (by kernel_rfl) (fun _ _ _ h => h) (Or.inl ⟨by rfl, ?_⟩) (by assumption) ?_
              rotate_left
              · (intro wS hSw; (try dsimp only at hSw); go_simp; try with_reducible rfl)
              simp only [Act.put, List.setIfInBounds_toArray, List.set_cons_zero, List.set_cons_succ]
              refine one_ (i := 1) _ (by kernel_rfl) rfl (fun K hK => ?_)
              go_simp
              refine DN.out.mono ?_
              rintro e w20 ⟨rfl, q, hw20⟩
              have B20 : Hid (Below w9.heap.size w9 w20) := by show Below _ _ _; rw [hw20]; exact ((Below.refl _ _).drew).trans (show Below w9.heap.size w9.drew (w9.drew.drewN q) from punder_drewN w9.drew q)
              have M20 : Hid (Mid w w20 p d reg N t r C Ls P v vs KR) := by show Mid _ _ _ _ _ _ _ _ _ _ _ _ _ _; rw [hw20]; exact (MD.out.drewN 1).drewN q
              have x2' : w20.cell? ⟨r, 2, none⟩ = some (.slice A9 m9 c9) := (B20.out.cell (p := ⟨r, 2, none⟩) RL.out).trans x2
              obtain ⟨p9, d1, d2⟩ := M20.out.te
              have DT := Lib.hid (dirty_nil w20 p9 t d1 d2)
              clear hw20 DN MD hHeld x2 d1 d2
              go_wp2_with fail
              refine hK.out _ _ x2' (fun hHeld => ?_)
              clear hK K
              refine take_ (i := 7) (v := ?_) 161 rfl rfl (by kernel_rfl) (by kernel_rfl) (by kernel_rfl) (fun _ _ _ h => h) (Or.inl ⟨by rfl, ?_⟩) (by assumption) ?_
              rotate_left
              · (intro wS hSw; (try dsimp only at hSw); go_simp; try with_reducible rfl)
              simp only [Act.put, List.setIfInBounds_toArray, List.set_cons_zero, List.set_cons_succ]
              refine take_ (i := 8) (v := ?_) 162 rfl rfl (by kernel_rfl) (by kernel_rfl) (by kernel_rfl) (fun _ _ _ h => h) (Or.inl ⟨by rfl, ?_⟩) (by assumption) ?_
              rotate_left
              · (intro wS hSw; (try dsimp only at hSw); go_simp; try with_reducible rfl)
              simp only [Act.put, List.setIfInBounds_toArray, List.set_cons_zero, List.set_cons_succ]
              refine take_ (i := 9) (v := ?_) 163 rfl rfl (by kernel_rfl) (by kernel_rfl) (by kernel_rfl) (fun _ _ _ h => h) (Or.inl ⟨by rfl, ?_⟩) (by assumption) ?_
              rotate_left
              · (intro wS hSw; (try dsimp only at hSw); go_simp; try with_reducible rfl)
              simp only [Act.put, List.setIfInBounds_toArray, List.set_cons_zero, List.set_cons_succ]
              refine one_ (i := 10) _ (by kernel_rfl) rfl (fun K hK => ?_)
              go_simp
              refine DT.out.mono ?_
              rintro e w' ⟨rfl, rfl⟩
              go_wp2_with fail
              refine hK.out _ _ x2' (fun hHeld => ?_)
              clear hK K
              refine take_ (i := 11) (v := ?_) 165 rfl rfl (by kernel_rfl) (by kernel_rfl) (by kernel_rfl) (fun _ _ _ h => h) (Or.inl ⟨by rfl, ?_⟩) (by assumption) ?_
              rotate_left
              · (intro wS hSw; (try dsimp only at hSw); go_simp; try with_reducible rfl)
              simp only [Act.put, List.setIfInBounds_toArray, List.set_cons_zero, List.set_cons_succ]
              refine take_ (i := 12) (v := ?_) 166 rfl rfl (by kernel_rfl) (by kernel_rfl) (by kernel_rfl) (fun _ _ _ h => h) (Or.inl ⟨by rfl, ?_⟩) (by assumption) ?_
              rotate_left
              · (intro wS hSw; (try dsimp only at hSw); go_simp; try with_reducible rfl)
              simp only [Act.put, List.setIfInBounds_toArray, List.set_cons_zero, List.set_cons_succ]
              refine wpAnyH_done (by kernel_rfl) ?_ _
              refine NoPanic.normal ?_
              clear x2' hHeld DT
              have BG := Lib.hid (s_begin w w20 true p d reg N C P M20.out.ps)
              go_wp2_with fail
              refine BG.out.mono ?_
              rintro e w21 ⟨t', tm', rfl, hpo, ht, htm, ho⟩
              have DU : Hid (Duo w (w21.alloc (.cells #[.pointer (some ⟨r, 0, none⟩), .slice none 0 0] 43)) true p d reg N t' tm' r w21.heap.size (fun _ => none) C [] Ls P v (.slice none 0 0) vs KR [w21.heap.size]) := M20.out.begin hpo ht htm ho
              clear hpo ht htm ho BG M20 B20
              go_wp2_with fail
              go_roundw
              case rel => exact ⟨k + 1, _, _, _, _, _, _, _, _, _, _, _, _, _, _, by omega, rfl, rfl, rfl, rfl, by go_num, HL.out, DU.out⟩
              case measure => simp [intOf]; omega
            · by_cases k4 : (kd : Int) % 6 = 4
              · clear k0 k1 k2 k3
                have SY := Lib.hid (s_sync w w8 true p d reg N _ C P D8.out.po.ps)
                go_wp2_with fail
                refine SY.out.mono ?_
                rintro e w9 (⟨rfl, P1, ps9, hs9, hm9⟩ | ⟨_, hc, _⟩)
                · have D9 := D8.out.synced ps9 hm9
                  have SS := s_synced w w9 true p d reg N _ C P1 ps9
                  have SD := s_done w w9 true p d reg N _ C P1 ps9
                  rw [hs9] at SS
                  obtain ⟨m, hm⟩ : ∃ m, m = C.length := ⟨_, rfl⟩
                  rw [← hm] at SS SD
                  have D9 := Lib.hid D9
                  have SS := Lib.hid SS
                  have SD := Lib.hid SD
                  clear ps9 hs9 hm9 hm SY D8 o0 OB
                  go_wp2_with fail
                  refine SS.out.mono ?_
                  rintro e w' ⟨rfl, rfl⟩
                  go_wp2_with fail
                  refine SD.out.mono ?_
                  rintro e w10 ⟨rfl, q, hw10⟩
                  have D10 : Hid (Duo w w10 true p d reg N t tm r t2 g C L Ls P1 v vL vs KR K2) := by show Duo _ _ _ _ _ _ _ _ _ _ _ _ _ _ _ _ _ _ _ _ _; rw [hw10]; exact D9.out.under (punder_drewN _ _)
                  clear hw10 SS SD D9
                  go_wp2_with fail
                  go_roundw
                  case rel => exact ⟨k + 1, _, _, _, _, _, _, _, _, _, _, _, _, _, _, by omega, rfl, rfl, rfl, rfl, by go_num, by have := HLS.out; omega, D10.out⟩
                  case measure => simp [intOf]; omega
                · exact absurd hc (by decide)
              · have k5 : (kd : Int) % 6 = 5 := by omega
                clear k0 k1 k2 k3 k4
                have AB := Lib.hid (s_abort w w8 true p d reg N t tm g C P D8.out.po)
                go_wp2_with fail
                refine AB.out.mono ?_
                rintro e w9 ⟨rfl, ps9, te9, ho9⟩
                have M9 := Lib.hid (D8.out.ended ps9 te9 ho9)
                have c4 := ps9.pag.held.cell 4
                rw [ps9.ids.1] at c4
                have t0 := te9.held.cell 0
                rw [ps9.ids.1] at t0
                have T9 : Hid (w9.cell? ⟨p, 4, none⟩ = some (.pointer none) ∧ w9.cell? ⟨t, 0, none⟩ = some (.pointer (some ⟨p, 0, none⟩)) ∧ t < w9.heap.size ∧ t ∉ P.foot) := ⟨c4, t0, te9.held.lt, D8.out.po.tx.off.1⟩
                have SY := Lib.hid (s_sync w w9 true p d reg N _ C P ps9)
                clear ps9 te9 ho9 AB D8 c4 t0 o0 OB
                go_wp2_with fail
                refine SY.out.mono ?_
                rintro e w10 (⟨rfl, P1, ps10, hs10, hm10⟩ | ⟨_, hc, _⟩)
                · have M10 := Lib.hid (M9.out.synced ps10 hm10 T9.out)
                  have c4 := ps10.pag.held.cell 4
                  rw [ps10.ids.1] at c4
                  have T10 : Hid (w10.cell? ⟨p, 4, none⟩ = some (.pointer none) ∧ w10.cell? ⟨t, 0, none⟩ = some (.pointer (some ⟨p, 0, none⟩)) ∧ t < w10.heap.size ∧ t ∉ P1.foot) :=
                    ⟨c4, (hm10.only.cell (p := ⟨t, 0, none⟩) T9.out.2.2.1 T9.out.2.2.2).trans T9.out.2.1, Nat.lt_of_lt_of_le T9.out.2.2.1 hm10.only.size, fun hm => by
                      rcases hm10.foot t hm with e3 | e3
                      · exact T9.out.2.2.2 e3
                      · have := T9.out.2.2.1; omega⟩
                  have SO := Lib.hid (s_open w w10 true p d reg N _ C P1 ps10 hs10 NR.out.1 NR.out.2.2.1 (by have := M10.out.sims.len; have := HLS.out; have := KN.out; omega))
                  clear ps10 hs10 hm10 SY M9 T9 c4
                  go_wp2_with fail
                  refine SO.out.mono ?_
                  rintro e w11 ⟨P3, rfl, ps11, hs11, ho11, hf11⟩
                  have M11 := Lib.hid (M10.out.opened ps11 ho11 hf11 T10.out)
                  have SS := s_synced w w11 true P3.p d reg N _ C P3 ps11
                  have SD := s_done w w11 true P3.p d reg N _ C P3 ps11
                  rw [hs11] at SS
                  obtain ⟨m, hm⟩ : ∃ m, m = C.length := ⟨_, rfl⟩
                  rw [← hm] at SS SD
                  have SS := Lib.hid SS
                  have SD := Lib.hid SD
                  obtain ⟨p3, hp3⟩ : ∃ p3, p3 = P3.p := ⟨_, rfl⟩
                  rw [← hp3] at M11 SS SD ⊢
                  clear ps11 hs11 ho11 hf11 SO M10 T10 hm hp3
                  go_wp2_with fail
                  refine SS.out.mono ?_
                  rintro e w' ⟨rfl, rfl⟩
                  go_wp2_with fail
                  refine SD.out.mono ?_
                  rintro e w12 ⟨rfl, q, hw12⟩
                  have MD : Hid (Mid w w12 p3 d reg N t r C Ls P3 v vs KR) := by show Mid _ _ _ _ _ _ _ _ _ _ _ _ _ _; rw [hw12]; exact M11.out.drewN q
                  have HL : Hid (Ls.length ≤ k + 1) := Nat.le_succ_of_le HLS.out
                  clear hw12 SS SD M11 HLS
                  obtain ⟨A9, c9, hv9⟩ := pslice MD.out.rb.puts.row
                  have x2 : w12.cell? ⟨r, 2, none⟩ = some (.slice A9 Ls.length c9) := by rw [← hv9]; exact MD.out.rb.pg.cell 2
                  have DN := s_done w w12.drew true p3 d reg N _ C P3 (MD.out.ps.under (Below.refl _ _).drew)
                  rw [MD.out.sims.len] at DN
                  have RL : Hid (r < w12.heap.size) := MD.out.rb.pg.lt
                  obtain ⟨m9, hm9⟩ : ∃ m9, m9 = Ls.length := ⟨_, rfl⟩
                  rw [← hm9] at x2 DN
                  have DN := Lib.hid DN
                  clear hm9 hv9
                  go_upto_region 37 with fail
                  refine wp_region_noPanic ?_
                  refine wp_region_held_drew (S := fun w' => w'.cell? ⟨r, 2, none⟩ = some (.slice A9 m9 c9)) (by kernel_rfl) x2 (fun hHeld => ?_)
                  refine take_ (i := 0) (v := ?_) 154 rfl rfl (by kernel_rfl) (by kernel_rfl) (by kernel_rfl) (fun _ _ _ h => h) (Or.inl ⟨by rfl, ?_⟩) (by assumption) ?_
                  rotate_left
                  · (intro wS hSw; (try dsimp only at hSw); go_simp; try with_reducible rfl)
                  simp only [Act.put, List.setIfInBounds_toArray, List.set_cons_zero, List.set_cons_succ]
                  refine take_ (i := 2) (v := ?_) 156 rfl rfl (by kernel_rfl) (by kernel_rfl) (by kernel_rfl) (fun _ _ _ h => h) (Or.inl ⟨by rfl, ?_⟩) (by assumption) ?_
                  rotate_left
                  · (intro wS hSw; (try dsimp only at hSw); go_simp; try with_reducible rfl)
                  simp only [Act.put, List.setIfInBounds_toArray, List.set_cons_zero, List.set_cons_succ]
                  refine take_ (i := 3) (v := ?_) 157 rfl rfl (by kernel_rfl) (by kernel_rfl) (by kernel_rfl) (fun _ _ _ h => h) (Or.inl ⟨by rfl, ?_⟩) (by assumption) ?_
                  rotate_left
                  · (intro wS hSw; (try dsimp only at hSw); go_simp; try with_reducible rfl)
                  simp only [Act.put, List.setIfInBounds_toArray, List.set_cons_zero, List.set_cons_succ]
                  refine take_ (i := 4) (v := ?_) 158 rfl rfl (by kernel_rfl) (by kernel_rfl) (by kernel_rfl) (fun _ _ _ h => h) (Or.inl ⟨by rfl, ?_⟩) (by assumption) ?_
                  rotate_left
                  · (intro wS hSw; (try dsimp only at hSw); go_simp; try with_reducible rfl)
                  simp only [Act.put, List.setIfInBounds_toArray, List.set_cons_zero, List.set_cons_succ]
                  refine take_ (i := 5) (v := ?_) 159 rfl rfl (by kernel_rfl) (by kernel_rfl) (by kernel_rfl) (fun _ _ _ h => h) (Or.inl ⟨by rfl, ?_⟩) (by assumption) ?_
                  rotate_left
                  · (intro wS hSw; (try dsimp only at hSw); go_simp; try with_reducible rfl)
                  simp only [Act.put, List.setIfInBounds_toArray, List.set_cons_zero, List.set_cons_succ]
                  refine take_ (i := 6) (v := ?_) 160 rfl rfl (by kernel_rfl) (by kernel_rfl) (by kernel_rfl) (fun _ _ _ h => h) (Or.inl ⟨by rfl, ?_⟩) (by assumption) ?_
                  rotate_left
                  · (intro wS hSw; (try dsimp only at hSw); go_simp; try with_reducible rfl)
                  simp only [Act.put, List.setIfInBounds_toArray, List.set_cons_zero, List.set_cons_succ]
                  refine one_ (i := 1) _ (by kernel_rfl) rfl (fun K hK => ?_)
                  go_simp
                  refine DN.out.mono ?_
                  rintro e w20 ⟨rfl, q, hw20⟩
                  have B20 : Hid (Below w12.heap.size w12 w20) := by show Below _ _ _; rw [hw20]; exact ((Below.refl _ _).drew).trans (show Below w12.heap.size w12.drew (w12.drew.drewN q) from punder_drewN w12.drew q)
                  have M20 : Hid (Mid w w20 p3 d reg N t r C Ls P3 v vs KR) := by show Mid _ _ _ _ _ _ _ _ _ _ _ _ _ _; rw [hw20]; exact (MD.out.drewN 1).drewN q
                  have x2' : w20.cell? ⟨r, 2, none⟩ = some (.slice A9 m9 c9) := (B20.out.cell (p := ⟨r, 2, none⟩) RL.out).trans x2
                  obtain ⟨p9, d1, d2⟩ := M20.out.te
                  have DT := Lib.hid (dirty_nil w20 p9 t d1 d2)
                  clear hw20 DN MD hHeld x2 d1 d2
                  go_wp2_with fail
                  refine hK.out _ _ x2' (fun hHeld => ?_)
                  clear hK K
                  refine take_ (i := 7) (v := ?_) 161 rfl rfl (by kernel_rfl) (by kernel_rfl) (by kernel_rfl) (fun _ _ _ h => h) (Or.inl ⟨by rfl, ?_⟩) (by assumption) ?_
                  rotate_left
                  · (intro wS hSw; (try dsimp only at hSw); go_simp; try with_reducible rfl)
                  simp only [Act.put, List.setIfInBounds_toArray, List.set_cons_zero, List.set_cons_succ]
                  refine take_ (i := 8) (v := ?_) 162 rfl rfl (by kernel_rfl) (by kernel_rfl) (by kernel_rfl) (fun _ _ _ h => h) (Or.inl ⟨by rfl, ?_⟩) (by assumption) ?_
                  rotate_left
                  · (intro wS hSw; (try dsimp only at hSw); go_simp; try with_reducible rfl)
                  simp only [Act.put, List.setIfInBounds_toArray, List.set_cons_zero, List.set_cons_succ]
                  refine take_ (i := 9) (v := ?_) 163 rfl rfl (by kernel_rfl) (by kernel_rfl) (by kernel_rfl) (fun _ _ _ h => h) (Or.inl ⟨by rfl, ?_⟩) (by assumption) ?_
                  rotate_left
                  · (intro wS hSw; (try dsimp only at hSw); go_simp; try with_reducible rfl)
                  simp only [Act.put, List.setIfInBounds_toArray, List.set_cons_zero, List.set_cons_succ]
                  refine one_ (i := 10) _ (by kernel_rfl) rfl (fun K hK => ?_)
                  go_simp
                  refine DT.out.mono ?_
                  rintro e w' ⟨rfl, rfl⟩
                  go_wp2_with fail
                  refine hK.out _ _ x2' (fun hHeld => ?_)
                  clear hK K
                  refine take_ (i := 11) (v := ?_) 165 rfl rfl (by kernel_rfl) (by kernel_rfl) (by kernel_rfl) (fun _ _ _ h => h) (Or.inl ⟨by rfl, ?_⟩) (by assumption) ?_
                  rotate_left
                  · (intro wS hSw; (try dsimp only at hSw); go_simp; try with_reducible rfl)
                  simp only [Act.put, List.setIfInBounds_toArray, List.set_cons_zero, List.set_cons_succ]
                  refine take_ (i := 12) (v := ?_) 166 rfl rfl (by kernel_rfl) (by kernel_rfl) (by kernel_rfl) (fun _ _ _ h => h) (Or.inl ⟨by rfl, ?_⟩) (by assumption) ?_
                  rotate_left
                  · (intro wS hSw; (try dsimp only at hSw); go_simp; try with_reducible rfl)
                  simp only [Act.put, List.setIfInBounds_toArray, List.set_cons_zero, List.set_cons_succ]
                  refine wpAnyH_done (by kernel_rfl) ?_ _
                  refine NoPanic.normal ?_
                  clear x2' hHeld DT
                  have BG := Lib.hid (s_begin w w20 true p3 d reg N C P3 M20.out.ps)
                  go_wp2_with fail
                  refine BG.out.mono ?_
                  rintro e w21 ⟨t', tm', rfl, hpo, ht, htm, ho⟩
                  have DU : Hid (Duo w (w21.alloc (.cells #[.pointer (some ⟨r, 0, none⟩), .slice none 0 0] 43)) true p3 d reg N t' tm' r w21.heap.size (fun _ => none) C [] Ls P3 v (.slice none 0 0) vs KR [w21.heap.size]) := M20.out.begin hpo ht htm ho
                  clear hpo ht htm ho BG M20 B20
                  go_wp2_with fail
                  go_roundw
                  case rel => exact ⟨k + 1, _, _, _, _, _, _, _, _, _, _, _, _, _, _, by omega, rfl, rfl, rfl, rfl, by go_num, HL.out, DU.out⟩
                  case measure => simp [intOf]; omega
                · exact absurd hc (by decide)
    · obtain rfl : k = n := by omega
      have RES : Hid (Below w.heap.size w wr) := DU.out.po.ps.below
      go_wp2_with fail
      go_ret
      exact ⟨rfl, RES.out⟩
end Go.Proofs.YtkajneeihhobhaaGreat.pagerPlays
