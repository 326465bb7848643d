/-
  pager: a transaction that is aborted has done nothing: the law's walk.
-/
import Derived.Test.YtkajneeihhobhaaGreatMPgS
namespace Go.Proofs.YtkajneeihhobhaaGreat.pagerAborts
open Go.ChangeShapes Go.WideShapes Go.ChangeAt Go.RowKit Pgr Wal

theorem row_at40 {w : World} {B c : Nat} {A : Option Addr} {C : List Com} (h : w.ownsRow B 9 1 (.slice A 40 c) 40 (allB C 40)) : ∃ g, A = some ⟨g, 0, none⟩ ∧ ∀ k, k < 40 → w.cell? ⟨g, k, none⟩ = some (.string (strB (At C k))) := by
  obtain ⟨g, rfl⟩ : ∃ g, A = some ⟨g, 0, none⟩ := by
    rcases h.2 with ⟨h1, _⟩ | ⟨g', cap, cur, h1, _⟩
    · injection h1 with _ h2 _
      omega
    · injection h1 with h1 _ _
      exact ⟨g', h1⟩
  refine ⟨g, rfl, fun k hk => ?_⟩
  rw [h.cellAt k (by omega)]
  unfold allB
  rw [List.getElem?_map, List.getElem?_range hk]
  rfl
theorem ne_self (a : Int) : (a != a) = false := by simp
set_option maxRecDepth 100000 in
set_option maxHeartbeats 6400000 in
theorem walk (A : Option Addr) (n c : Nat) (l : Nat → Nat × Int × ByteArray) (A2 : Option Addr) (n2 c2 : Nat) (l2 : Nat → Nat × Int × ByteArray) (w : World) (hl : POps w A n l) (hn : n ≤ 9223372036854775807) (hl2 : POps w A2 n2 l2) (hn2 : n2 ≤ 9223372036854775807) :
    Calls Tryz.prog 7 #[.slice A n c, .slice A2 n2 c2] w fun e w' => e = .returned (.bool true) ∧ Below w.heap.size w w' := by
  have kc' := fun W s => Lib.run_convert_string_bytes (P := Tryz.prog) W 9 56 5 s Tryz.underlying9 Tryz.underlying56 Tryz.underlying5
  have HL := Lib.hid hl
  have HL2 := Lib.hid hl2
  have HN : Hid (n ≤ 9223372036854775807 ∧ n2 ≤ 9223372036854775807) := ⟨hn, hn2⟩
  have FX := Lib.hid (pfixed_any w)
  clear hl hl2 hn hn2
  go_enter Tryz.func7, Tryz.ntmps7
  go_wp2_with fail
  refine FX.out.mono ?_
  rintro e w0 ⟨rfl, hb0⟩
  have B0 := Lib.hid hb0
  have ND := new_any w0 (80 : Int)
  rw [show clampN (80 : Int) = 80 from by decide] at ND
  have ND := Lib.hid ND
  clear hb0 FX
  go_wp2_with fail
  refine ND.out.mono ?_
  rintro e w1 ⟨d, F, rfl, hD, hb, hF⟩
  have MK := Lib.hid (l_make w w1 d F 80 40 hD (B0.out.trans (hb.mono B0.out.size)) (fun y hy => Nat.le_trans B0.out.size (hF y hy)) (by omega) (by omega))
  clear ND hD hb hF B0
  go_wp2_with fail
  refine MK.out.mono ?_
  rintro e w2 ⟨p, rfl, hP⟩
  have P2 := Lib.hid hP
  clear MK hP
  go_wp2_with fail
  go_loopw [7] (fun iv wr => ∃ (j : Nat) (C : List Com), j ≤ 2 ∧ iv = .int .i64 (j : Nat) ∧ Hold w wr p d 40 40 C ∧ C.length ≤ 1 ∧ (j = 0 → C = []) ∧ (1 ≤ j → Sims 40 C (comL [] (runA 40 l n).2))) (fun iv _ => 2 - (intOf iv).toNat)
  case atStart => exact ⟨0, [], by omega, rfl, P2.out, by simp, fun _ => rfl, fun h => by omega⟩
  case round =>
    clear P2
    obtain ⟨j, C, hj, rfl, hH, hC1, hC0, hCs⟩ := hrel
    have HH := Lib.hid hH
    have HC : Hid (C.length ≤ 1 ∧ (j = 0 → C = []) ∧ (1 ≤ j → Sims 40 C (comL [] (runA 40 l n).2))) := ⟨hC1, hC0, hCs⟩
    clear hH hC1 hC0 hCs
    by_cases hj2 : j < 2
    · have hj3 : (j : Int) < 2 := by omega
      have hj0 : (0 : Int) ≤ (j : Int) := by omega
      have BG := Lib.hid (l_begin w wr p d 40 40 C HH.out)
      clear HH
      go_wp2_with fail
      refine BG.out.mono ?_
      rintro e w3 ⟨t, tm, rfl, hT⟩
      have T3 := Lib.hid hT
      have DN : Hid (Calls Tryz.prog 21 #[.pointer (some ⟨p, 0, none⟩)] w3 fun e w' => e = .returned (.int .i64 (C.length : Nat)) ∧ ∃ q, w' = w3.drewN q) := by
        obtain ⟨P, hP, _⟩ := hT
        exact l_done w w3 p d 40 40 _ C P hP
      clear hT BG
      obtain ⟨M, hM⟩ : ∃ M : Int, M = ((C.length : Nat) : Int) := ⟨_, rfl⟩
      have HM := Lib.hid hM
      rw [← hM] at DN
      clear hM
      go_wp2_with fail
      refine DN.out.mono ?_
      rintro e w4 ⟨rfl, q, hw4⟩
      have T4 : Hid (HoldT w w4 p d 40 40 t tm (fun _ => none) C) := by show HoldT _ _ _ _ _ _ _ _ _ _; rw [hw4]; exact T3.out.under (punder_drewN _ _)
      clear hw4 DN T3
      obtain ⟨A', n', c', l', hX, hPO, hSel⟩ : ∃ (A' : Option Addr) (n' c' : Nat) (l' : Nat → Nat × Int × ByteArray), (w4.alloc (.cells #[.slice A n c, .slice A2 n2 c2] 22)).cell? ⟨w4.heap.size, j, none⟩ = some (.slice A' n' c') ∧ (POps w A' n' l' ∧ n' ≤ 9223372036854775807) ∧ (j = 0 → n' = n ∧ l' = l) := by
        have hh := Held.new w4 22 #[.slice A n c, .slice A2 n2 c2] rfl
        have : j = 0 ∨ j = 1 := by omega
        rcases this with rfl | rfl
        · exact ⟨A, n, c, l, hh.cell 0, ⟨HL.out, HN.out.1⟩, fun _ => ⟨rfl, rfl⟩⟩
        · exact ⟨A2, n2, c2, l2, hh.cell 1, ⟨HL2.out, HN.out.2⟩, fun h => by omega⟩
      have PO := Lib.hid hPO
      have SE := Lib.hid hSel
      have n'i : (n' : Int) ≤ 9223372036854775807 := by omega
      have T5 : Hid (HoldT w (w4.alloc (.cells #[.slice A n c, .slice A2 n2 c2] 22)) p d 40 40 t tm (fun _ => none) C) := T4.out.under ((Below.refl _ _).alloc (Nat.le_refl _) _)
      clear hPO hSel T4
      go_wp2_with fail
      go_loopw [11, 47] (fun nv bv wr => ∃ (k : Nat) (g : Com), k ≤ n' ∧ bv = .int .i64 (k : Nat) ∧ nv = .int .i64 ((runA 40 l' k).1 : Nat) ∧ HoldT w wr p d 40 40 t tm g C ∧ Sim4 40 g (runA 40 l' k).2) (fun _ bv _ => n' - (intOf bv).toNat)
      case atStart => exact ⟨0, _, by omega, rfl, rfl, T5.out, Sim4.nil 40⟩
      case round =>
        clear T5 hX
        obtain ⟨k, g, hk, rfl, rfl, hT, hS⟩ := hrel
        have HT := Lib.hid hT
        have HS := Lib.hid hS
        clear hT hS
        by_cases hlt : k < n'
        · have hk1 : (k : Int) < (n' : Int) := by omega
          have hk0 : (0 : Int) ≤ (k : Int) := by omega
          obtain ⟨b, off, rfl, hbw, hcl⟩ := PO.out.1.2 (by omega)
          have hcl := hcl k hlt
          have x0 : wr.cell? ⟨b, off + k * 3, none⟩ = some (.int .u8 ((l' k).1 : Int)) := (HT.out.below.cell (p := ⟨b, off + k * 3, none⟩) hbw).trans hcl.1
          have x1 : wr.cell? ⟨b, off + k * 3 + 1, none⟩ = some (.int .i64 (l' k).2.1) := (HT.out.below.cell (p := ⟨b, off + k * 3 + 1, none⟩) hbw).trans hcl.2.1
          have x2 : wr.cell? ⟨b, off + k * 3 + 2, none⟩ = some (.string (l' k).2.2) := (HT.out.below.cell (p := ⟨b, off + k * 3 + 2, none⟩) hbw).trans hcl.2.2
          obtain ⟨y0, _, _, ysz⟩ := PO.out.1.1 k hlt
          have ER := Lib.hid (runA_succ 40 l' k)
          have RL := Lib.hid (runA_le 40 l' k)
          obtain ⟨kd, hkd⟩ : ∃ kd, kd = (l' k).1 := ⟨_, rfl⟩
          obtain ⟨z, hz⟩ : ∃ z, z = (l' k).2.1 := ⟨_, rfl⟩
          obtain ⟨s, hs⟩ : ∃ s, s = (l' k).2.2 := ⟨_, rfl⟩
          obtain ⟨cnt, hcnt⟩ : ∃ cnt, cnt = (runA 40 l' k).1 := ⟨_, rfl⟩
          obtain ⟨L, hL⟩ : ∃ L, L = (runA 40 l' k).2 := ⟨_, rfl⟩
          rw [← hkd] at y0 x0
          rw [← hz] at x1
          rw [← hs] at x2 ysz
          rw [← hz, ← hs, ← hcnt, ← hL] at ER
          rw [← hcnt, ← hL] at RL
          rw [← hL] at HS
          have CL : Hid ((runA 40 l' k).1 = cnt ∧ (runA 40 l' k).2 = L) := ⟨hcnt.symm, hL.symm⟩
          have ZS : Hid ((l' k).2.1 = z ∧ (l' k).2.2 = s) := ⟨hz.symm, hs.symm⟩
          rw [← hcnt]
          have hc30 : (cnt : Int) ≤ 30 := by have := RL.out.2; omega
          clear hkd hz hs hcl hcnt hL hbw
          by_cases hc : cnt < 30
          · have hci : (cnt : Int) < 30 := by omega
            have BW : Hid (Below wr.heap.size wr (Lib.bytesWorld (wr.alloc (.cells #[.int .u8 (kd : Int), .int .i64 z, .string s] 45)) 5 s)) := ((Below.refl _ _).alloc (Nat.le_refl _) _).trans (below_bytesWorld _ 5 s (by rw [World.size_alloc]; omega))
            have LT := HT.out.lt
            have WR := w_any w (Lib.bytesWorld (wr.alloc (.cells #[.int .u8 (kd : Int), .int .i64 z, .string s] 45)) 5 s) p d 40 40 t tm g C z (some ⟨wr.heap.size + 1, 0, none⟩) s.size (grownCap (wr.alloc (.cells #[.int .u8 (kd : Int), .int .i64 z, .string s] 45)) s.size 0 5) (nums s) (HT.out.under BW.out) (bts_bytesWorld _ _ _ (by rw [World.size_alloc])) (fun _ x hx => by injection hx with hx; rw [← hx]; exact ⟨by show wr.heap.size + 1 ≠ p; omega, by show wr.heap.size + 1 ≠ tm; omega⟩)
            by_cases hg : (0 ≤ z ∧ z < ((40 : Nat) : Int)) ∧ s.size ≤ 512
            · rw [if_pos hg, if_pos hg] at WR
              have WR := Lib.hid WR
              have E2 : Hid (runA 40 l' (k + 1) = (cnt + 1, dropB L z ++ [(z.toNat, sec (nums s))])) := ER.out.trans (if_pos ⟨hc, hg⟩)
              have S2 : Hid (Sim4 40 (upd g z.toNat (sec (nums s))) (dropB L z ++ [(z.toNat, sec (nums s))])) := by
                have := HS.out.write (b := z.toNat) (by have := hg.1; omega) (sec (nums s))
                rwa [show ((z.toNat : Nat) : Int) = z by have := hg.1; omega] at this
              clear LT hg HS ER HT BW
              go_wp2_with fail
              refine WR.out.mono ?_
              rintro e w5 ⟨rfl, hT5, _⟩
              have T5 := Lib.hid hT5
              clear hT5 WR x0 x1 x2
              go_wp2_with fail
              go_roundw
              case rel => exact ⟨k + 1, _, by omega, by go_num, by rw [E2.out]; go_num, T5.out, by rw [E2.out]; exact S2.out⟩
              case measure => simp [intOf]; omega
            · rw [if_neg hg, if_neg hg] at WR
              have WR := Lib.hid WR
              have E2 : Hid (runA 40 l' (k + 1) = runA 40 l' k) := (runA_succ 40 l' k).trans (if_neg fun h => hg (by
                have h2 := h.2
                rw [ZS.out.1, ZS.out.2] at h2
                exact h2))
              clear LT hg HT BW
              go_wp2_with fail
              refine WR.out.mono ?_
              rintro e w5 ⟨rfl, hT5, _⟩
              have T5 := Lib.hid hT5
              clear hT5 WR x0 x1 x2
              go_wp2_with fail
              go_roundw
              case rel => exact ⟨k + 1, g, by omega, by go_num, by rw [E2.out, CL.out.1], T5.out, by rw [E2.out, CL.out.2]; exact HS.out⟩
              case measure => simp [intOf]; omega
          · have hci : ¬ (cnt : Int) < 30 := by omega
            have E2 : Hid (runA 40 l' (k + 1) = runA 40 l' k) := (runA_succ 40 l' k).trans (if_neg fun h => hc (by rw [← CL.out.1]; exact h.1))
            have T5 : Hid (HoldT w (wr.alloc (.cells #[.int .u8 (kd : Int), .int .i64 z, .string s] 45)) p d 40 40 t tm g C) := HT.out.under ((Below.refl _ _).alloc (Nat.le_refl _) _)
            clear hc HT
            go_wp2_with fail
            go_roundw
            case rel => exact ⟨k + 1, g, by omega, by go_num, by rw [E2.out, CL.out.1], T5.out, by rw [E2.out, CL.out.2]; exact HS.out⟩
            case measure => simp [intOf]; omega
        · obtain rfl : k = n' := by omega
          have RL := Lib.hid (runA_le 40 l' k)
          have DL : Hid ((dirt 40 g).length ≤ 30) := by show _ ≤ _; rw [HS.out.len]; have := RL.out; omega
          have hj1 : j = 0 ∨ j = 1 := by omega
          rcases hj1 with rfl | rfl
          · have S1 : Hid (Sims 40 (comC 40 C g) (comL [] (runA 40 l n).2)) := by
              have e1 := SE.out rfl
              have e2 := HC.out.2.1 rfl
              rw [e2, ← e1.1, ← e1.2]
              exact (Sims.nil 40).com HS.out
            have S3 : Hid ((comC 40 C g).length ≤ 1) := by
              have e2 := HC.out.2.1 rfl
              show _ ≤ _
              rw [e2]
              unfold comC
              split <;> simp
            have CM := Lib.hid (c_any w wr p d 40 40 t tm g C HT.out (by have := HC.out.1; omega) (by have := DL.out; omega) (by have := DL.out; omega))
            clear HT HS
            go_wp2_with fail
            refine CM.out.mono ?_
            rintro e w6 ⟨x6, rfl, hH6⟩
            have H6 := Lib.hid hH6
            clear hH6 CM
            go_wp2_with fail
            go_roundw
            case rel => exact ⟨1, _, by omega, by go_num, H6.out, S3.out, fun h => by omega, fun _ => S1.out⟩
            case measure => simp [intOf]
          · have AB := Lib.hid (l_abort w wr p d 40 40 t tm g C HT.out)
            have nn : (M != M) = false := ne_self _
            clear HT HS
            go_wp2_with fail
            refine AB.out.mono ?_
            rintro e w6 ⟨rfl, hH6, _⟩
            have DN : Hid (Calls Tryz.prog 21 #[.pointer (some ⟨p, 0, none⟩)] w6 fun e w' => e = .returned (.int .i64 M) ∧ ∃ q, w' = w6.drewN q) := by
              obtain ⟨P, hP⟩ := hH6
              show Calls _ _ _ _ _
              rw [HM.out]
              exact l_done w w6 p d 40 40 _ C P hP
            have H6 := Lib.hid hH6
            clear hH6 AB
            go_wp2_with fail
            refine DN.out.mono ?_
            rintro e w7 ⟨rfl, q, hw7⟩
            have H7 : Hid (Hold w w7 p d 40 40 C) := by show Hold _ _ _ _ _ _ _; rw [hw7]; exact H6.out.under (punder_drewN _ _)
            clear hw7 H6 DN
            go_wp2_with fail
            go_roundw
            case rel => exact ⟨2, _, by omega, by go_num, H7.out, HC.out.1, fun h => by omega, fun _ => HC.out.2.2 (by omega)⟩
            case measure => simp [intOf]
    · obtain rfl : j = 2 := by omega
      obtain ⟨P, hP⟩ := HH.out
      have BK := Lib.hid (pblocks_any w wr p d 40 40 C P hP)
      have SC := Lib.hid (HC.out.2.2 (by omega))
      clear HH hP HC
      go_wp2_with fail
      refine BK.out.mono ?_
      rintro e w7 ⟨v, rfl, hr7, hp7, _⟩
      obtain ⟨A1, c1, rfl⟩ := pslice hr7
      have B7 : Hid (Below w.heap.size w w7) := hp7.below
      obtain ⟨D, hD⟩ : ∃ D, D = wr.heap.size := ⟨_, rfl⟩
      rw [← hD] at hr7
      have V7 := Lib.hid hr7
      clear hr7 hp7 BK hD
      go_wp2_with fail
      have R8 : Hid (RTx ((w7.alloc (.cells #[.int .i64 40, .int .i64 39, .slice none 0 0] 35)).alloc (.cells #[.pointer (some ⟨w7.heap.size, 0, none⟩), .slice none 0 0] 43)) w7.heap.size w7.heap.size (w7.heap.size + 1) 40 39 (.slice none 0 0) (.slice none 0 0) []) :=
        ⟨(Held.new w7 _ _ rfl).alloc _, Held.new _ _ _ (by rw [World.size_alloc]), World.ownsRow_nil _ _ _ _⟩
      have V8 : Hid (((w7.alloc (.cells #[.int .i64 40, .int .i64 39, .slice none 0 0] 35)).alloc (.cells #[.pointer (some ⟨w7.heap.size, 0, none⟩), .slice none 0 0] 43)).ownsRow D 9 1 (.slice A1 40 c1) 40 (allB C 40)) := (((Only.refl [] w7).alloc _).alloc _).row V7.out (fun _ _ hx => by cases hx)
      have B8 : Hid (Below w.heap.size w ((w7.alloc (.cells #[.int .i64 40, .int .i64 39, .slice none 0 0] 35)).alloc (.cells #[.pointer (some ⟨w7.heap.size, 0, none⟩), .slice none 0 0] 43))) := (B7.out.alloc B7.out.size _).alloc (by rw [World.size_alloc]; exact Nat.le_succ_of_le B7.out.size) _
      have S8 : Hid (w7.heap.size ≤ ((w7.alloc (.cells #[.int .i64 40, .int .i64 39, .slice none 0 0] 35)).alloc (.cells #[.pointer (some ⟨w7.heap.size, 0, none⟩), .slice none 0 0] 43)).heap.size) := by show _ ≤ _; rw [World.size_alloc, World.size_alloc]; omega
      go_loopw [17, 18] (fun iv nv wr => ∃ (k : Nat) (vL : Value) (base : Nat), k ≤ n ∧ iv = .int .i64 (k : Nat) ∧ nv = .int .i64 ((runA 40 l k).1 : Nat) ∧ RTx wr base w7.heap.size (w7.heap.size + 1) 40 39 (.slice none 0 0) vL (runA 40 l k).2 ∧ Below w.heap.size w wr ∧ wr.ownsRow D 9 1 (.slice A1 40 c1) 40 (allB C 40) ∧ w7.heap.size ≤ base ∧ w7.heap.size ≤ wr.heap.size) (fun iv _ _ => n - (intOf iv).toNat)
      case atStart => exact ⟨0, _, _, by omega, rfl, rfl, R8.out, B8.out, V8.out, Nat.le_refl _, S8.out⟩
      case round =>
        clear R8 V8 B8 S8 V7
        obtain ⟨k, vL, base, hk, rfl, rfl, hT, hbw, hv, hb1, hb2⟩ := hrel
        have RT := Lib.hid hT
        have BW := Lib.hid hbw
        have VR := Lib.hid hv
        have BB : Hid (w7.heap.size ≤ base ∧ w7.heap.size ≤ wr.heap.size) := ⟨hb1, hb2⟩
        clear hT hbw hv hb1 hb2
        have ni : (n : Int) ≤ 9223372036854775807 := by have := HN.out.1; omega
        have RL := Lib.hid (runA_le 40 l k)
        have ER := Lib.hid (runA_succ 40 l k)
        by_cases hlt : k < n ∧ (runA 40 l k).1 < 30
        · obtain ⟨hk2, hc⟩ := hlt
          have hk1 : (k : Int) < (n : Int) := by omega
          have hk0 : (0 : Int) ≤ (k : Int) := by omega
          obtain ⟨b, off, rfl, hbw, hcl⟩ := HL.out.2 (by omega)
          have XC : Hid (∀ w', Below w.heap.size w w' → w'.cell? ⟨b, off + k * 3 + 1, none⟩ = some (.int .i64 (l k).2.1) ∧ w'.cell? ⟨b, off + k * 3 + 2, none⟩ = some (.string (l k).2.2)) := fun w' h =>
            ⟨(h.cell (p := ⟨b, off + k * 3 + 1, none⟩) hbw).trans (hcl k hk2).2.1, (h.cell (p := ⟨b, off + k * 3 + 2, none⟩) hbw).trans (hcl k hk2).2.2⟩
          obtain ⟨x1, x2⟩ := XC.out wr BW.out
          have WR := rw_any wr.drew base w7.heap.size (w7.heap.size + 1) 40 39 (.slice none 0 0) vL (runA 40 l k).2 (l k).2.1 (l k).2.2 (RT.out.under (Below.refl _ _).drew) (by have := RL.out; omega)
          obtain ⟨z, hz⟩ : ∃ z, z = (l k).2.1 := ⟨_, rfl⟩
          obtain ⟨s, hs⟩ : ∃ s, s = (l k).2.2 := ⟨_, rfl⟩
          obtain ⟨cnt, hcnt⟩ : ∃ cnt, cnt = (runA 40 l k).1 := ⟨_, rfl⟩
          obtain ⟨L, hL⟩ : ∃ L, L = (runA 40 l k).2 := ⟨_, rfl⟩
          have CL : Hid ((runA 40 l k).1 = cnt ∧ (runA 40 l k).2 = L) := ⟨hcnt.symm, hL.symm⟩
          have e1 : (runA 40 l (k + 1)) = if wgood 40 z s then (cnt + 1, dropB L z ++ [(z.toNat, sec (nums s))]) else (cnt, L) := by
            rw [ER.out, hcnt, hL, hz, hs]
            by_cases hg : wgood 40 (l k).2.1 (l k).2.2
            · rw [if_pos ⟨hc, hg⟩, if_pos hg]
            · rw [if_neg (fun h => hg h.2), if_neg hg]
          have E2 := Lib.hid e1
          rw [← hz, ← hs] at XC
          rw [← hz] at x1
          rw [← hs] at x2
          rw [← hz, ← hs, ← hL] at WR
          rw [← hcnt] at hc ⊢
          have hci : (cnt : Int) < 30 := by omega
          clear hz hs hcnt hL hcl hbw e1 ER
          obtain ⟨ev, hev⟩ : ∃ ev : Int, ev = if wgood 40 z s then 0 else 1 := ⟨_, rfl⟩
          rw [← hev] at WR
          have WR := Lib.hid WR
          have EV := Lib.hid hev
          clear hev
          go_upto_region 27 with fail
          refine wp_region_noPanic ?_
          refine wp_region_held_drew (S := fun w' => w'.cell? ⟨b, off + k * 3 + 1, none⟩ = some (.int .i64 z) ∧ w'.cell? ⟨b, off + k * 3 + 2, none⟩ = some (.string s)) (by kernel_rfl) ⟨x1, x2⟩ (fun hHeld => ?_)
          refine take_ (i := 0) (v := ?_) 95 rfl rfl (by kernel_rfl) (by kernel_rfl) (by kernel_rfl) (fun _ _ _ h => h) (Or.inl ⟨by rfl, ?_⟩) (by assumption) ?_
          rotate_left
          · (intro wS hSw; (try dsimp only at hSw); go_simp; try with_reducible rfl)
          simp only [Act.put, List.setIfInBounds_toArray, List.set_cons_zero, List.set_cons_succ]
          refine take_ (i := 1) (v := ?_) 96 rfl rfl (by kernel_rfl) (by kernel_rfl) (by kernel_rfl) (fun _ _ _ h => h) (Or.inl ⟨by rfl, ?_⟩) (by assumption) ?_
          rotate_left
          · (intro wS hSw; (try dsimp only at hSw); go_simp; try with_reducible rfl)
          simp only [Act.put, List.setIfInBounds_toArray, List.set_cons_zero, List.set_cons_succ]
          refine take_ (i := 2) (v := ?_) 97 rfl rfl (by kernel_rfl) (by kernel_rfl) (by kernel_rfl) (fun _ _ _ h => h) (Or.inl ⟨by rfl, ?_⟩) (by assumption) ?_
          rotate_left
          · (intro wS hSw; (try dsimp only at hSw); go_simp; try with_reducible rfl)
          simp only [Act.put, List.setIfInBounds_toArray, List.set_cons_zero, List.set_cons_succ]
          refine take_ (i := 3) (v := ?_) 98 rfl rfl (by kernel_rfl) (by kernel_rfl) (by kernel_rfl) (fun _ _ _ h => h) (Or.inl ⟨by rfl, ?_⟩) (by assumption) ?_
          rotate_left
          · (intro wS hSw; (try dsimp only at hSw); go_simp; try with_reducible rfl)
          simp only [Act.put, List.setIfInBounds_toArray, List.set_cons_zero, List.set_cons_succ]
          refine take_ (i := 4) (v := ?_) 99 rfl rfl (by kernel_rfl) (by kernel_rfl) (by kernel_rfl) (fun _ _ _ h => h) (Or.inl ⟨by rfl, ?_⟩) (by assumption) ?_
          rotate_left
          · (intro wS hSw; (try dsimp only at hSw); go_simp; try with_reducible rfl)
          simp only [Act.put, List.setIfInBounds_toArray, List.set_cons_zero, List.set_cons_succ]
          refine take_ (i := 5) (v := ?_) 100 rfl rfl (by kernel_rfl) (by kernel_rfl) (by kernel_rfl) (fun _ _ _ h => h) (Or.inl ⟨by rfl, ?_⟩) (by assumption) ?_
          rotate_left
          · (intro wS hSw; (try dsimp only at hSw); go_simp; try with_reducible rfl)
          simp only [Act.put, List.setIfInBounds_toArray, List.set_cons_zero, List.set_cons_succ]
          refine take_ (i := 6) (v := ?_) 101 rfl rfl (by kernel_rfl) (by kernel_rfl) (by kernel_rfl) (fun _ _ _ h => h) (Or.inl ⟨by rfl, ?_⟩) (by assumption) ?_
          rotate_left
          · (intro wS hSw; (try dsimp only at hSw); go_simp; try with_reducible rfl)
          simp only [Act.put, List.setIfInBounds_toArray, List.set_cons_zero, List.set_cons_succ]
          refine take_ (i := 7) (v := ?_) 102 rfl rfl (by kernel_rfl) (by kernel_rfl) (by kernel_rfl) (fun _ _ _ h => h) (Or.inl ⟨by rfl, ?_⟩) (by assumption) ?_
          rotate_left
          · (intro wS hSw; (try dsimp only at hSw); go_simp; try with_reducible rfl)
          simp only [Act.put, List.setIfInBounds_toArray, List.set_cons_zero, List.set_cons_succ]
          refine take_ (i := 8) (v := ?_) 103 rfl rfl (by kernel_rfl) (by kernel_rfl) (by kernel_rfl) (fun _ _ _ h => h) (Or.inl ⟨by rfl, ?_⟩) (by assumption) ?_
          rotate_left
          · (intro wS hSw; (try dsimp only at hSw); go_simp; try with_reducible rfl)
          simp only [Act.put, List.setIfInBounds_toArray, List.set_cons_zero, List.set_cons_succ]
          refine take_ (i := 9) (v := ?_) 104 rfl rfl (by kernel_rfl) (by kernel_rfl) (by kernel_rfl) (fun _ _ _ h => h) (Or.inl ⟨by rfl, ?_⟩) (by assumption) ?_
          rotate_left
          · (intro wS hSw; (try dsimp only at hSw); go_simp; try with_reducible rfl)
          simp only [Act.put, List.setIfInBounds_toArray, List.set_cons_zero, List.set_cons_succ]
          refine take_ (i := 10) (v := ?_) 105 rfl rfl (by kernel_rfl) (by kernel_rfl) (by kernel_rfl) (fun _ _ _ h => h) (Or.inl ⟨by rfl, ?_⟩) (by assumption) ?_
          rotate_left
          · (intro wS hSw; (try dsimp only at hSw); go_simp; try with_reducible rfl)
          simp only [Act.put, List.setIfInBounds_toArray, List.set_cons_zero, List.set_cons_succ]
          refine one_ (i := 11) _ (by kernel_rfl) rfl (fun K hK => ?_)
          go_simp
          refine WR.out.mono ?_
          rintro e w8 ⟨vL', base', rfl, hT8, ho8, hb8⟩
          have ho9 : Only [w7.heap.size + 1] wr w8 := ((Only.refl _ wr).drew).trans ho8 (fun _ hx => .inl hx)
          have BW8 : Hid (Below w.heap.size w w8) := BW.out.trans (ho9.below BW.out.size (fun x hx => by
            have : x = w7.heap.size + 1 := by simpa using hx
            have := B7.out.size
            omega))
          have VR8 : Hid (w8.ownsRow D 9 1 (.slice A1 40 c1) 40 (allB C 40)) := ho9.row VR.out (fun x hx hm => RT.out.tx.ne_row VR.out (by decide) x hx (by simpa using hm))
          have BB8 : Hid (w7.heap.size ≤ base' ∧ w7.heap.size ≤ w8.heap.size) := by
            have h1 := BB.out
            have h2 := ho9.size
            refine ⟨?_, by omega⟩
            rcases hb8 with h3 | h3
            · omega
            · rw [h3]; exact h1.2
          have T8 := Lib.hid hT8
          obtain ⟨c1', c2'⟩ := XC.out w8 BW8.out
          clear hT8 ho8 ho9 hb8 WR BW VR BB RT hHeld x1 x2
          go_wp2_with fail
          refine hK.out _ _ ⟨c1', c2'⟩ (fun hHeld => ?_)
          clear hK K
          refine one_ (i := 12) _ (by kernel_rfl) rfl (fun K hK => ?_)
          go_simp
          refine hK.out _ _ ⟨c1', c2'⟩ (fun hHeld => ?_)
          clear hK K
          refine wpAnyH_done (by kernel_rfl) ?_ _
          refine NoPanic.normal ?_
          clear c1' c2' hHeld XC
          by_cases hg : wgood 40 z s
          · have e0 : ev = 0 := EV.out.trans (if_pos hg)
            have E3 : Hid (runA 40 l (k + 1) = (cnt + 1, dropB L z ++ [(z.toNat, sec (nums s))])) := E2.out.trans (if_pos hg)
            have T9 := T8.out
            rw [if_pos hg] at T9
            have T9 := Lib.hid T9
            subst e0
            clear hg E2 T8 EV
            go_wp2_with fail
            go_roundw
            case rel => exact ⟨k + 1, vL', base', by omega, by go_num, by rw [E3.out]; go_num, by rw [E3.out]; exact T9.out, BW8.out, VR8.out, BB8.out⟩
            case measure => simp [intOf]; omega
          · have e0 : ev = 1 := EV.out.trans (if_neg hg)
            have E3 : Hid (runA 40 l (k + 1) = (cnt, L)) := E2.out.trans (if_neg hg)
            have T9 := T8.out
            rw [if_neg hg] at T9
            have T9 := Lib.hid T9
            subst e0
            clear hg E2 T8 EV
            go_wp2_with fail
            go_roundw
            case rel => exact ⟨k + 1, vL', base', by omega, by go_num, by rw [E3.out], by rw [E3.out]; exact T9.out, BW8.out, VR8.out, BB8.out⟩
            case measure => simp [intOf]; omega
        · have RLn := Lib.hid (runA_le 40 l n)
          have hcle : ((runA 40 l k).1 : Int) ≤ 30 := by have := RL.out.2; omega
          by_cases hn2 : k < n
          · have hk1 : (k : Int) < (n : Int) := by omega
            have eA : runA 40 l n = runA 40 l k := runA_all 40 l (fun h => hlt ⟨hn2, h⟩) (by omega)
            have hk2 : ¬ ((runA 40 l k).1 : Int) < 30 := by omega
            rw [← eA] at RT hk2 hcle ⊢
            obtain ⟨cnt, hcnt⟩ : ∃ cnt, cnt = (runA 40 l n).1 := ⟨_, rfl⟩
            rw [← hcnt] at hk2 hcle ⊢
            clear hlt hn2 eA hcnt ER RL
            go_upto_region 29 with fail
            clear hk1 hk2 hcle
            have RC := Lib.hid (rc_any wr base w7.heap.size w7.heap.size (w7.heap.size + 1) 40 39 (.slice none 0 0) vL [] (runA 40 l n).2 [] RT.out (PutsAt.nil wr w7.heap.size) (by have := RLn.out; omega) (by simp) BB.out.1 (by have := BB.out; omega) (by have := RLn.out; omega))
            have VV := Lib.hid VR.out
            have TX0 := Lib.hid RT.out.tx
            have PG0 := Lib.hid RT.out.pg
            clear RT VR
            go_wp2_with fail
            refine RC.out.mono ?_
            rintro e w8 ⟨x8, v8, vs8, rfl, hg8, hp8, ho8⟩
            have P8 := Lib.hid hp8
            have G8 := Lib.hid hg8
            have ho8' : Only [w7.heap.size] wr w8 := ho8
            have T8 : Hid (Held w8 (w7.heap.size + 1) 43 #[.pointer (some ⟨w7.heap.size, 0, none⟩), vL]) := TX0.out.only ho8' (by simp)
            have V8 : Hid (w8.ownsRow D 9 1 (.slice A1 40 c1) 40 (allB C 40)) := ho8'.row VV.out (fun x hx hm => PG0.out.ne_row VV.out (by decide) x hx (by simpa using hm))
            have B8 : Hid (Below w.heap.size w w8) := BW.out.trans (ho8'.below BW.out.size (fun x hx => Nat.le_trans B7.out.size (Nat.le_of_eq (List.mem_singleton.1 hx).symm)))
            clear hg8 hp8 ho8 ho8' RC VV TX0 PG0
            go_wp2_with fail
            go_loopw [19] (fun bv wr => ∃ k : Nat, k ≤ 40 ∧ bv = .int .i64 (k : Nat) ∧ Below w8.heap.size w8 wr) (fun bv _ => 40 - (intOf bv).toNat)
            case atStart => exact ⟨0, by omega, rfl, Below.refl _ _⟩
            case round =>
              obtain ⟨k, hk, rfl, hb⟩ := hrel
              have BK := Lib.hid hb
              clear hb
              by_cases hk3 : k < 40
              · have hk4 : (k : Int) < 40 := by omega
                have hk0 : (0 : Int) ≤ (k : Int) := by omega
                obtain ⟨g1, rfl, hg1⟩ := row_at40 ((Only.of_below (F := []) BK.out).row V8.out (fun _ _ hx => by cases hx))
                have x1 := hg1 k hk3
                have x2 : wr.cell? ⟨w7.heap.size + 1, 0, none⟩ = some (.pointer (some ⟨w7.heap.size, 0, none⟩)) := (T8.out.only (Only.of_below (F := []) BK.out) (by simp)).cell 0
                have hlt1 := ((V8.out.lt g1 rfl).2 : g1 < w8.heap.size)
                have hlt2 := T8.out.lt
                have PA := pat_any wr.drew w7.heap.size w7.heap.size 40 39 v8 vs8 _ (k : Int) 1 (G8.out.only ((Only.of_below (F := []) BK.out).drew) (by simp)) ((P8.out.under BK.out).under (Below.refl _ _).drew) (by unfold comL; split <;> simp) (by unfold comL; split <;> simp)
                rw [← SC.out.at_ k] at PA
                obtain ⟨S, hS⟩ : ∃ S, S = strB (At C k) := ⟨_, rfl⟩
                rw [← hS] at x1 PA
                have PA := Lib.hid PA
                have LL : Hid (g1 < wr.heap.size ∧ w7.heap.size + 1 < wr.heap.size) := ⟨Nat.lt_of_lt_of_le hlt1 BK.out.size, Nat.lt_of_lt_of_le hlt2 BK.out.size⟩
                clear hS hg1 hlt1 hlt2
                go_upto_region 33 with fail
                refine wp_region_noPanic ?_
                refine wp_region_held_drew (S := fun w' => w'.cell? ⟨g1, k, none⟩ = some (.string S) ∧ w'.cell? ⟨w7.heap.size + 1, 0, none⟩ = some (.pointer (some ⟨w7.heap.size, 0, none⟩))) (by kernel_rfl) ⟨x1, x2⟩ (fun hHeld => ?_)
                refine take_ (i := 0) (v := ?_) 118 rfl rfl (by kernel_rfl) (by kernel_rfl) (by kernel_rfl) (fun _ _ _ h => h) (Or.inl ⟨by rfl, ?_⟩) (by assumption) ?_
                rotate_left
                · (intro wS hSw; (try dsimp only at hSw); go_simp; try with_reducible rfl)
                simp only [Act.put, List.setIfInBounds_toArray, List.set_cons_zero, List.set_cons_succ]
                refine take_ (i := 1) (v := ?_) 119 rfl rfl (by kernel_rfl) (by kernel_rfl) (by kernel_rfl) (fun _ _ _ h => h) (Or.inl ⟨by rfl, ?_⟩) (by assumption) ?_
                rotate_left
                · (intro wS hSw; (try dsimp only at hSw); go_simp; try with_reducible rfl)
                simp only [Act.put, List.setIfInBounds_toArray, List.set_cons_zero, List.set_cons_succ]
                refine take_ (i := 2) (v := ?_) 120 rfl rfl (by kernel_rfl) (by kernel_rfl) (by kernel_rfl) (fun _ _ _ h => h) (Or.inl ⟨by rfl, ?_⟩) (by assumption) ?_
                rotate_left
                · (intro wS hSw; (try dsimp only at hSw); go_simp; try with_reducible rfl)
                simp only [Act.put, List.setIfInBounds_toArray, List.set_cons_zero, List.set_cons_succ]
                refine take_ (i := 3) (v := ?_) 121 rfl rfl (by kernel_rfl) (by kernel_rfl) (by kernel_rfl) (fun _ _ _ h => h) (Or.inl ⟨by rfl, ?_⟩) (by assumption) ?_
                rotate_left
                · (intro wS hSw; (try dsimp only at hSw); go_simp; try with_reducible rfl)
                simp only [Act.put, List.setIfInBounds_toArray, List.set_cons_zero, List.set_cons_succ]
                refine take_ (i := 4) (v := ?_) 122 rfl rfl (by kernel_rfl) (by kernel_rfl) (by kernel_rfl) (fun _ _ _ h => h) (Or.inl ⟨by rfl, ?_⟩) (by assumption) ?_
                rotate_left
                · (intro wS hSw; (try dsimp only at hSw); go_simp; try with_reducible rfl)
                simp only [Act.put, List.setIfInBounds_toArray, List.set_cons_zero, List.set_cons_succ]
                refine take_ (i := 5) (v := ?_) 123 rfl rfl (by kernel_rfl) (by kernel_rfl) (by kernel_rfl) (fun _ _ _ h => h) (Or.inl ⟨by rfl, ?_⟩) (by assumption) ?_
                rotate_left
                · (intro wS hSw; (try dsimp only at hSw); go_simp; try with_reducible rfl)
                simp only [Act.put, List.setIfInBounds_toArray, List.set_cons_zero, List.set_cons_succ]
                refine take_ (i := 6) (v := ?_) 124 rfl rfl (by kernel_rfl) (by kernel_rfl) (by kernel_rfl) (fun _ _ _ h => h) (Or.inl ⟨by rfl, ?_⟩) (by assumption) ?_
                rotate_left
                · (intro wS hSw; (try dsimp only at hSw); go_simp; try with_reducible rfl)
                simp only [Act.put, List.setIfInBounds_toArray, List.set_cons_zero, List.set_cons_succ]
                refine take_ (i := 7) (v := ?_) 125 rfl rfl (by kernel_rfl) (by kernel_rfl) (by kernel_rfl) (fun _ _ _ h => h) (Or.inl ⟨by rfl, ?_⟩) (by assumption) ?_
                rotate_left
                · (intro wS hSw; (try dsimp only at hSw); go_simp; try with_reducible rfl)
                simp only [Act.put, List.setIfInBounds_toArray, List.set_cons_zero, List.set_cons_succ]
                refine take_ (i := 8) (v := ?_) 126 rfl rfl (by kernel_rfl) (by kernel_rfl) (by kernel_rfl) (fun _ _ _ h => h) (Or.inl ⟨by rfl, ?_⟩) (by assumption) ?_
                rotate_left
                · (intro wS hSw; (try dsimp only at hSw); go_simp; try with_reducible rfl)
                simp only [Act.put, List.setIfInBounds_toArray, List.set_cons_zero, List.set_cons_succ]
                refine one_ (i := 9) _ (by kernel_rfl) rfl (fun K hK => ?_)
                go_simp
                refine PA.out.mono ?_
                rintro e w9 ⟨rfl, hb9⟩
                have B9 : Hid (Below w8.heap.size w8 w9) := BK.out.trans ((show Below wr.heap.size wr w9 from (Below.refl _ _).drew.trans hb9).mono BK.out.size)
                have x1' : w9.cell? ⟨g1, k, none⟩ = some (.string S) := (hb9.cell (p := ⟨g1, k, none⟩) LL.out.1).trans x1
                have x2' : w9.cell? ⟨w7.heap.size + 1, 0, none⟩ = some (.pointer (some ⟨w7.heap.size, 0, none⟩)) := (hb9.cell (p := ⟨w7.heap.size + 1, 0, none⟩) LL.out.2).trans x2
                clear hb9 PA hHeld x1 x2
                go_wp2_with fail
                refine hK.out _ _ ⟨x1', x2'⟩ (fun hHeld => ?_)
                clear hK K
                refine one_ (i := 10) _ (by kernel_rfl) rfl (fun K hK => ?_)
                go_simp
                refine hK.out _ _ ⟨x1', x2'⟩ (fun hHeld => ?_)
                clear hK K
                refine wpAnyH_done (by kernel_rfl) ?_ _
                refine NoPanic.normal ?_
                clear x1' x2' hHeld
                go_wp2_with fail
                go_roundw
                case rel => exact ⟨k + 1, by omega, by go_num, B9.out⟩
                case measure => simp [intOf]; omega
              · obtain rfl : k = 40 := by omega
                have RES : Hid (Below w.heap.size w wr) := B8.out.trans (BK.out.mono B8.out.size)
                go_wp2_with fail
                go_ret
                exact ⟨rfl, RES.out⟩
          · obtain rfl : k = n := by omega
            obtain ⟨cnt, hcnt⟩ : ∃ cnt, cnt = (runA 40 l k).1 := ⟨_, rfl⟩
            rw [← hcnt] at hcle ⊢
            clear hlt hn2 hcnt ER RL
            go_upto_region 29 with fail
            clear hcle
            have RC := Lib.hid (rc_any wr base w7.heap.size w7.heap.size (w7.heap.size + 1) 40 39 (.slice none 0 0) vL [] (runA 40 l k).2 [] RT.out (PutsAt.nil wr w7.heap.size) (by have := RLn.out; omega) (by simp) BB.out.1 (by have := BB.out; omega) (by have := RLn.out; omega))
            have VV := Lib.hid VR.out
            have TX0 := Lib.hid RT.out.tx
            have PG0 := Lib.hid RT.out.pg
            clear RT VR
            go_wp2_with fail
            refine RC.out.mono ?_
            rintro e w8 ⟨x8, v8, vs8, rfl, hg8, hp8, ho8⟩
            have P8 := Lib.hid hp8
            have G8 := Lib.hid hg8
            have ho8' : Only [w7.heap.size] wr w8 := ho8
            have T8 : Hid (Held w8 (w7.heap.size + 1) 43 #[.pointer (some ⟨w7.heap.size, 0, none⟩), vL]) := TX0.out.only ho8' (by simp)
            have V8 : Hid (w8.ownsRow D 9 1 (.slice A1 40 c1) 40 (allB C 40)) := ho8'.row VV.out (fun x hx hm => PG0.out.ne_row VV.out (by decide) x hx (by simpa using hm))
            have B8 : Hid (Below w.heap.size w w8) := BW.out.trans (ho8'.below BW.out.size (fun x hx => Nat.le_trans B7.out.size (Nat.le_of_eq (List.mem_singleton.1 hx).symm)))
            clear hg8 hp8 ho8 ho8' RC VV TX0 PG0
            go_wp2_with fail
            go_loopw [19] (fun bv wr => ∃ k : Nat, k ≤ 40 ∧ bv = .int .i64 (k : Nat) ∧ Below w8.heap.size w8 wr) (fun bv _ => 40 - (intOf bv).toNat)
            case atStart => exact ⟨0, by omega, rfl, Below.refl _ _⟩
            case round =>
              obtain ⟨k, hk, rfl, hb⟩ := hrel
              have BK := Lib.hid hb
              clear hb
              by_cases hk3 : k < 40
              · have hk4 : (k : Int) < 40 := by omega
                have hk0 : (0 : Int) ≤ (k : Int) := by omega
                obtain ⟨g1, rfl, hg1⟩ := row_at40 ((Only.of_below (F := []) BK.out).row V8.out (fun _ _ hx => by cases hx))
                have x1 := hg1 k hk3
                have x2 : wr.cell? ⟨w7.heap.size + 1, 0, none⟩ = some (.pointer (some ⟨w7.heap.size, 0, none⟩)) := (T8.out.only (Only.of_below (F := []) BK.out) (by simp)).cell 0
                have hlt1 := ((V8.out.lt g1 rfl).2 : g1 < w8.heap.size)
                have hlt2 := T8.out.lt
                have PA := pat_any wr.drew w7.heap.size w7.heap.size 40 39 v8 vs8 _ (k : Int) 1 (G8.out.only ((Only.of_below (F := []) BK.out).drew) (by simp)) ((P8.out.under BK.out).under (Below.refl _ _).drew) (by unfold comL; split <;> simp) (by unfold comL; split <;> simp)
                rw [← SC.out.at_ k] at PA
                obtain ⟨S, hS⟩ : ∃ S, S = strB (At C k) := ⟨_, rfl⟩
                rw [← hS] at x1 PA
                have PA := Lib.hid PA
                have LL : Hid (g1 < wr.heap.size ∧ w7.heap.size + 1 < wr.heap.size) := ⟨Nat.lt_of_lt_of_le hlt1 BK.out.size, Nat.lt_of_lt_of_le hlt2 BK.out.size⟩
                clear hS hg1 hlt1 hlt2
                go_upto_region 33 with fail
                refine wp_region_noPanic ?_
                refine wp_region_held_drew (S := fun w' => w'.cell? ⟨g1, k, none⟩ = some (.string S) ∧ w'.cell? ⟨w7.heap.size + 1, 0, none⟩ = some (.pointer (some ⟨w7.heap.size, 0, none⟩))) (by kernel_rfl) ⟨x1, x2⟩ (fun hHeld => ?_)
                refine take_ (i := 0) (v := ?_) 118 rfl rfl (by kernel_rfl) (by kernel_rfl) (by kernel_rfl) (fun _ _ _ h => h) (Or.inl ⟨by rfl, ?_⟩) (by assumption) ?_
                rotate_left
                · (intro wS hSw; (try dsimp only at hSw); go_simp; try with_reducible rfl)
                simp only [Act.put, List.setIfInBounds_toArray, List.set_cons_zero, List.set_cons_succ]
                refine take_ (i := 1) (v := ?_) 119 rfl rfl (by kernel_rfl) (by kernel_rfl) (by kernel_rfl) (fun _ _ _ h => h) (Or.inl ⟨by rfl, ?_⟩) (by assumption) ?_
                rotate_left
                · (intro wS hSw; (try dsimp only at hSw); go_simp; try with_reducible rfl)
                simp only [Act.put, List.setIfInBounds_toArray, List.set_cons_zero, List.set_cons_succ]
                refine take_ (i := 2) (v := ?_) 120 rfl rfl (by kernel_rfl) (by kernel_rfl) (by kernel_rfl) (fun _ _ _ h => h) (Or.inl ⟨by rfl, ?_⟩) (by assumption) ?_
                rotate_left
                · (intro wS hSw; (try dsimp only at hSw); go_simp; try with_reducible rfl)
                simp only [Act.put, List.setIfInBounds_toArray, List.set_cons_zero, List.set_cons_succ]
                refine take_ (i := 3) (v := ?_) 121 rfl rfl (by kernel_rfl) (by kernel_rfl) (by kernel_rfl) (fun _ _ _ h => h) (Or.inl ⟨by rfl, ?_⟩) (by assumption) ?_
                rotate_left
                · (intro wS hSw; (try dsimp only at hSw); go_simp; try with_reducible rfl)
                simp only [Act.put, List.setIfInBounds_toArray, List.set_cons_zero, List.set_cons_succ]
                refine take_ (i := 4) (v := ?_) 122 rfl rfl (by kernel_rfl) (by kernel_rfl) (by kernel_rfl) (fun _ _ _ h => h) (Or.inl ⟨by rfl, ?_⟩) (by assumption) ?_
                rotate_left
                · (intro wS hSw; (try dsimp only at hSw); go_simp; try with_reducible rfl)
                simp only [Act.put, List.setIfInBounds_toArray, List.set_cons_zero, List.set_cons_succ]
                refine take_ (i := 5) (v := ?_) 123 rfl rfl (by kernel_rfl) (by kernel_rfl) (by kernel_rfl) (fun _ _ _ h => h) (Or.inl ⟨by rfl, ?_⟩) (by assumption) ?_
                rotate_left
                · (intro wS hSw; (try dsimp only at hSw); go_simp; try with_reducible rfl)
                simp only [Act.put, List.setIfInBounds_toArray, List.set_cons_zero, List.set_cons_succ]
                refine take_ (i := 6) (v := ?_) 124 rfl rfl (by kernel_rfl) (by kernel_rfl) (by kernel_rfl) (fun _ _ _ h => h) (Or.inl ⟨by rfl, ?_⟩) (by assumption) ?_
                rotate_left
                · (intro wS hSw; (try dsimp only at hSw); go_simp; try with_reducible rfl)
                simp only [Act.put, List.setIfInBounds_toArray, List.set_cons_zero, List.set_cons_succ]
                refine take_ (i := 7) (v := ?_) 125 rfl rfl (by kernel_rfl) (by kernel_rfl) (by kernel_rfl) (fun _ _ _ h => h) (Or.inl ⟨by rfl, ?_⟩) (by assumption) ?_
                rotate_left
                · (intro wS hSw; (try dsimp only at hSw); go_simp; try with_reducible rfl)
                simp only [Act.put, List.setIfInBounds_toArray, List.set_cons_zero, List.set_cons_succ]
                refine take_ (i := 8) (v := ?_) 126 rfl rfl (by kernel_rfl) (by kernel_rfl) (by kernel_rfl) (fun _ _ _ h => h) (Or.inl ⟨by rfl, ?_⟩) (by assumption) ?_
                rotate_left
                · (intro wS hSw; (try dsimp only at hSw); go_simp; try with_reducible rfl)
                simp only [Act.put, List.setIfInBounds_toArray, List.set_cons_zero, List.set_cons_succ]
                refine one_ (i := 9) _ (by kernel_rfl) rfl (fun K hK => ?_)
                go_simp
                refine PA.out.mono ?_
                rintro e w9 ⟨rfl, hb9⟩
                have B9 : Hid (Below w8.heap.size w8 w9) := BK.out.trans ((show Below wr.heap.size wr w9 from (Below.refl _ _).drew.trans hb9).mono BK.out.size)
                have x1' : w9.cell? ⟨g1, k, none⟩ = some (.string S) := (hb9.cell (p := ⟨g1, k, none⟩) LL.out.1).trans x1
                have x2' : w9.cell? ⟨w7.heap.size + 1, 0, none⟩ = some (.pointer (some ⟨w7.heap.size, 0, none⟩)) := (hb9.cell (p := ⟨w7.heap.size + 1, 0, none⟩) LL.out.2).trans x2
                clear hb9 PA hHeld x1 x2
                go_wp2_with fail
                refine hK.out _ _ ⟨x1', x2'⟩ (fun hHeld => ?_)
                clear hK K
                refine one_ (i := 10) _ (by kernel_rfl) rfl (fun K hK => ?_)
                go_simp
                refine hK.out _ _ ⟨x1', x2'⟩ (fun hHeld => ?_)
                clear hK K
                refine wpAnyH_done (by kernel_rfl) ?_ _
                refine NoPanic.normal ?_
                clear x1' x2' hHeld
                go_wp2_with fail
                go_roundw
                case rel => exact ⟨k + 1, by omega, by go_num, B9.out⟩
                case measure => simp [intOf]; omega
              · obtain rfl : k = 40 := by omega
                have RES : Hid (Below w.heap.size w wr) := B8.out.trans (BK.out.mono B8.out.size)
                go_wp2_with fail
                go_ret
                exact ⟨rfl, RES.out⟩
end Go.Proofs.YtkajneeihhobhaaGreat.pagerAborts
