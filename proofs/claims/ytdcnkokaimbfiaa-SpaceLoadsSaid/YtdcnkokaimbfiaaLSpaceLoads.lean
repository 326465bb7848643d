/-
  P5.1: a map by which the first two blocks aren't taken, or blocks are that there aren't, is none; any other one is loaded as it is: the law answers true for every input, and its arguments read behind the call as before. No condition beside the row's own.
-/
import Derived.Test.YtdcnkokaimbfiaaSp7
import Derived.Test.YtdcnkokaimbfiaaOps
namespace Go.Proofs.Ytdcnkokaimbfiaa.spaceLoads
open Go.ChangeShapes Go.WideShapes Go.ChangeAt Go.RowKit

theorem own : ownKnob Try.prog.godebug = none := by kernel_rfl
theorem laidOut : laidOutB Try.prog = true := by kernel_rfl

theorem good_nil (w : World) (z : Int) : Calls Try.prog 28 #[.nilIface, .int .i64 z] w fun e w' => e = .returned (.bool false) ∧ w = w' := by
  go_enter Try.func28, Try.ntmps28
  go_wp2_with fail
  go_ret
  exact ⟨rfl, rfl⟩
theorem good_no (w : World) (t : Nat) (z : Int) (h : z < 2 ∨ 4096 < z) : Calls Try.prog 28 #[ifc t, .int .i64 z] w fun e w' => e = .returned (.bool false) ∧ w = w' := by
  unfold ifc
  by_cases h1 : z < 2
  · have h1' : ¬ z ≥ 2 := by omega
    go_enter Try.func28, Try.ntmps28
    go_wp2_with fail
    go_ret
    exact ⟨rfl, rfl⟩
  · have h1' : z ≥ 2 := by omega
    have h2' : ¬ z ≤ 4096 := by omega
    go_enter Try.func28, Try.ntmps28
    go_wp2_with fail
    go_ret
    exact ⟨rfl, rfl⟩
theorem make_no (w : World) (v : Value) (z : Int) (h : Calls Try.prog 28 #[v, .int .i64 z] w fun e w' => e = .returned (.bool false) ∧ w = w') :
    Calls Try.prog 10 #[v, .int .i64 z] w fun e w' => e = .returned (.int .i64 1) ∧ w = w' := by
  have H := Lib.hid h
  clear h
  go_enter Try.func10, Try.ntmps10
  go_wp2_with fail
  refine H.out.mono ?_
  rintro e w' ⟨rfl, rfl⟩
  go_wp2_with fail
  go_ret
  exact ⟨rfl, rfl⟩
theorem load_no (w : World) (v : Value) (z : Int) (h : Calls Try.prog 28 #[v, .int .i64 z] w fun e w' => e = .returned (.bool false) ∧ w = w') :
    Calls Try.prog 11 #[v, .int .i64 z] w fun e w' => e = .returned (.tuple #[.pointer none, .int .i64 1]) ∧ w = w' := by
  have H := Lib.hid h
  clear h
  go_enter Try.func11, Try.ntmps11
  go_wp2_with fail
  refine H.out.mono ?_
  rintro e w' ⟨rfl, rfl⟩
  go_wp2_with fail
  go_ret2
  exact ⟨rfl, rfl⟩
theorem store_no (w : World) (g : Nat) : Calls Try.prog 18 #[.pointer (some ⟨g, 0, none⟩), .nilIface] w fun e w' => e = .returned (.int .i64 1) ∧ w = w' := by
  go_enter Try.func18, Try.ntmps18
  go_wp2_with fail
  go_ret
  exact ⟨rfl, rfl⟩
theorem bit_test : ∀ (x : Fin 256) (j : Fin 8), (bits .and .u8 ((x.val : Int) / 2 ^ j.val) 1 == 1) = x.val.testBit j.val := by decide +kernel
theorem low_test : ∀ (x : Fin 256), (bits .and .u8 (x.val : Int) 3 == 3) = (x.val.testBit 0 && x.val.testBit 1) := by decide +kernel
/-- The numbers that a text tells. -/
def told (l : List Nat) (b : Nat) : Bool := ((sec l).getD (b / 8) 0).testBit (b % 8)
theorem told_set {l : List Nat} (h : ∀ x ∈ l, x < 256) : Set8 (sec l) (told l) := ⟨Blk.sec h, fun _ _ => rfl⟩
theorem sec_at {l : List Nat} (hl : l.length ≤ 512) {i : Nat} (hi : i < l.length) : (sec l).getD i 0 = l.getD i 0 := by
  rw [sec_short hl, List.getD_eq_getElem?_getD, List.getElem?_append_left hi, List.getD_eq_getElem?_getD]
theorem told_off {l : List Nat} (hl : l.length ≤ 512) {b : Nat} (hb : 8 * l.length ≤ b) : told l b = false := by
  unfold told
  rw [sec_short hl, List.getD_eq_getElem?_getD, List.getElem?_append_right (by omega), List.getElem?_replicate]
  split <;> simp
set_option maxRecDepth 100000 in
set_option maxHeartbeats 1600000 in
theorem walk (z : Int) (A : Option Addr) (N c : Nat) (l : List Nat) (w : World) (hl : Bts w A N l) (hN : N ≤ 9223372036854775807) :
    Calls Try.prog 4 #[.int .i64 z, .slice A N c] w fun e w' => e = .returned (.bool true) ∧ Below w.heap.size w w' := by
  have HL := Lib.hid hl
  have hN9 : (N : Int) ≤ 9223372036854775807 := by omega
  clear hl
  go_enter Try.func4, Try.ntmps4
  go_wp2_with fail
  refine (fixed_any _).mono ?_
  rintro e w0 ⟨rfl, hb0⟩
  have B0 := Lib.hid hb0
  have PG := Lib.hid (pages_any w0 9 (by omega) (by omega))
  clear hb0
  go_wp2_with fail
  refine PG.out.mono ?_
  rintro e w1 ⟨P, t, tm, rfl, hp, _, _, hb, hnew⟩
  have W1 : Hid (Own w w1 P t tm (fun _ => none)) := ⟨hp, B0.out.trans (hb.mono B0.out.size), fun x hx => Nat.le_trans B0.out.size (hnew x hx)⟩
  clear hp hb hnew PG B0
  by_cases h512 : 512 < N
  · have h5 : (512 : Int) < (N : Int) := by omega
    go_wp2_with fail
    go_ret
    exact ⟨rfl, W1.out.below⟩
  · have h5 : ¬ (512 : Int) < (N : Int) := by omega
    have hB1 : Bts w1 A N l := HL.out.kept W1.out.below
    have TW := Lib.hid (twrite_any w1 P t tm _ 0 A N c l W1.out.pages.pag W1.out.pages.tx W1.out.pages.n W1.out.pages.dead W1.out.pages.mdead hB1 (by omega) (fun h0 x hx => by
      obtain ⟨g, off, e, hg, _⟩ := HL.out.2.2 h0
      rw [e] at hx
      injection hx with hx
      subst hx
      have h1 := W1.out.new P.p (by simp [pfoot])
      have h2 := W1.out.new tm (by simp [pfoot])
      exact ⟨by show g ≠ _; omega, by show g ≠ _; omega⟩))
    go_wp2_with fail
    refine TW.out.mono ?_
    rintro e w2 ⟨rfl, hp2, hk2, ho2⟩
    have W2 := Lib.hid (W1.out.wrote ⟨hp2, hk2, W1.out.pages.dead, W1.out.pages.mdead, W1.out.pages.n⟩ ho2)
    have T8 := Lib.hid (told_set HL.out.2.1)
    clear TW hp2 hk2 ho2 hB1 W1
    by_cases hz : z < 2 ∨ 4096 < z
    · have LN := Lib.hid (load_no w2 (ifc t) z (good_no w2 t z hz))
      have M0 := Lib.hid (make_no w2 .nilIface z (good_nil w2 z))
      have L0 := Lib.hid (load_no w2 .nilIface z (good_nil w2 z))
      have MN := Lib.hid (make_no w2 (ifc t) z (good_no w2 t z hz))
      go_wp2_with fail
      refine LN.out.mono ?_
      rintro e w' ⟨rfl, rfl⟩
      go_wp2_with fail
      refine M0.out.mono ?_
      rintro e w' ⟨rfl, rfl⟩
      go_wp2_with fail
      refine L0.out.mono ?_
      rintro e w' ⟨rfl, rfl⟩
      have h2 : z < 2 ∨ ¬ z < 2 := by omega
      rcases h2 with h2 | h2
      · go_wp2_with fail
        refine MN.out.mono ?_
        rintro e w' ⟨rfl, rfl⟩
        go_wp2_with fail
        go_ret
        exact ⟨rfl, W2.out.below⟩
      · have h3 : 4096 < z := by omega
        go_wp2_with fail
        refine MN.out.mono ?_
        rintro e w' ⟨rfl, rfl⟩
        go_wp2_with fail
        go_ret
        exact ⟨rfl, W2.out.below⟩
    · obtain ⟨n, rfl⟩ : ∃ n : Nat, z = (n : Int) := ⟨z.toNat, by omega⟩
      have hn2 : 2 ≤ n ∧ n ≤ 4096 := by omega
      have LD := Lib.hid (sload_any w2 P t tm _ n (sec l) (told l) W2.out.pages T8.out (got_upd _ _ _) hn2)
      go_wp2_with fail
      refine LD.out.mono ?_
      rintro e w3 ⟨hp3, ho3, hyes, hno⟩
      have W3 := Lib.hid (W2.out.read hp3 ho3)
      have M0 := Lib.hid (make_no w3 .nilIface (n : Int) (good_nil w3 _))
      have L0 := Lib.hid (load_no w3 .nilIface (n : Int) (good_nil w3 _))
      have RES : ∃ (po : Option Addr) (ev : Int), e = .returned (.tuple #[.pointer po, .int .i64 ev]) ∧ ((po = none ∧ ev = 11 ∧ ¬ ((∀ b, b < 4096 → n ≤ b → told l b = false) ∧ told l 0 = true ∧ told l 1 = true)) ∨ (∃ m, po = some ⟨m, 0, none⟩ ∧ ev = 0 ∧ ((∀ b, b < 4096 → n ≤ b → told l b = false) ∧ told l 0 = true ∧ told l 1 = true) ∧ MapOf w3 m n (told l) (told l))) := by
        by_cases hok : ((∀ b, b < 4096 → n ≤ b → told l b = false) ∧ told l 0 = true ∧ told l 1 = true)
        · obtain ⟨m, e1, _, hS⟩ := hyes hok
          exact ⟨_, _, e1, .inr ⟨m, rfl, rfl, hok, _, _, hS, T8.out, T8.out⟩⟩
        · exact ⟨_, _, hno hok, .inl ⟨rfl, rfl, hok⟩⟩
      obtain ⟨po, ev, rfl, hcase⟩ := RES
      have CASE := Lib.hid hcase
      have HB3 : Hid (Bts w3 A N l) := HL.out.kept W3.out.below
      have hN5 : N ≤ 512 := by omega
      clear LD hp3 ho3 hyes hno hcase
      go_wp2_with fail
      refine M0.out.mono ?_
      rintro e w' ⟨rfl, rfl⟩
      go_wp2_with fail
      refine L0.out.mono ?_
      rintro e w' ⟨rfl, rfl⟩
      have hz1 : ¬ (n : Int) < 2 := by omega
      have hz2 : ¬ (n : Int) > 4096 := by omega
      go_upto_region 15 with fail
      go_cut [12, 13] (fun gv uv wc => ∃ gb, gv = .bool gb ∧ uv = .int .i64 0 ∧ (gb = true ↔ (0 < N ∧ told l 0 = true ∧ told l 1 = true)) ∧ w3 = wc)
      case first =>
        rcases Nat.eq_zero_or_pos N with h0 | h0
        · subst h0
          go_wp2_with fail
          go_meet
          case rel => exact ⟨false, rfl, rfl, by simp, rfl⟩
        · have h0' : (0 : Int) < (N : Int) := by omega
          obtain ⟨g, off, rfl, hg, hcell⟩ := HB3.out.2.2 h0
          have c0 := hcell 0 h0
          rw [Nat.add_zero] at c0
          obtain ⟨x, hx⟩ : ∃ x, x = l.getD 0 0 := ⟨_, rfl⟩
          rw [← hx] at c0
          have hx8 : x < 256 := by
            rw [hx, List.getD_eq_getElem?_getD, List.getElem?_eq_getElem (by rw [HL.out.1]; exact h0)]
            exact HL.out.2.1 _ (List.getElem_mem _)
          have ht := low_test ⟨x, hx8⟩
          dsimp only at ht
          have IFF : Hid ((x.testBit 0 && x.testBit 1) = true ↔ (0 < N ∧ told l 0 = true ∧ told l 1 = true)) := by
            have h1 : told l 0 = x.testBit 0 := by unfold told; rw [sec_at (by rw [HL.out.1]; exact hN5) (by rw [HL.out.1]; omega), hx]
            have h2 : told l 1 = x.testBit 1 := by unfold told; rw [sec_at (by rw [HL.out.1]; exact hN5) (by rw [HL.out.1]; omega), hx]
            show _ ↔ _
            rw [h1, h2, Bool.and_eq_true]
            exact ⟨fun h => ⟨h0, h.1, h.2⟩, fun h => ⟨h.2.1, h.2.2⟩⟩
          obtain ⟨tb, htb⟩ : ∃ tb, tb = (x.testBit 0 && x.testBit 1) := ⟨_, rfl⟩
          rw [← htb] at ht IFF
          clear hcell hx htb
          go_wp2_with fail
          go_meet
          case rel => exact ⟨tb, rfl, rfl, IFF.out, rfl⟩
      case rest =>
        obtain ⟨gb, rfl, rfl, hgb, rfl⟩ := hcut
        have GB := Lib.hid hgb
        clear hgb
        go_wp2_with fail
        go_loop [12, 13, 14] (fun gv uv bv => ∃ b : Nat, ∃ gb, b ≤ 8 * N ∧ gv = .bool gb ∧ uv = .int .i64 (cntB (told l) b : Nat) ∧ bv = .int .i64 (b : Nat) ∧ (gb = true ↔ (0 < N ∧ told l 0 = true ∧ told l 1 = true ∧ ∀ k, k < b → told l k = true → k < n))) (fun _ _ bv => 8 * N - (intOf bv).toNat)
        case atStart => exact ⟨0, gb, by omega, rfl, rfl, rfl, by rw [GB.out]; simp⟩
        case round =>
          obtain ⟨b, g2, hb, rfl, rfl, rfl, hg2⟩ := hrel
          have G2 := Lib.hid hg2
          clear hg2 GB
          have hcnt := cntB_le (told l) b
          by_cases hlt : b < 8 * N
          · have hlt' : (b : Int) < 8 * (N : Int) := by omega
            obtain ⟨g, off, rfl, hg, hcell⟩ := HB3.out.2.2 (by omega)
            have c0 := hcell (b / 8) (by omega)
            obtain ⟨x, hx⟩ : ∃ x, x = l.getD (b / 8) 0 := ⟨_, rfl⟩
            rw [← hx] at c0
            have e1 : ((b : Int)).tdiv 8 = ((b / 8 : Nat) : Int) := by
              rw [Int.tdiv_eq_ediv_of_nonneg (by omega)]
              omega
            have e2 : ((b : Int)).tmod 8 = ((b % 8 : Nat) : Int) := by
              rw [Int.tmod_eq_emod_of_nonneg (by omega)]
              omega
            have hT : told l b = x.testBit (b % 8) := by unfold told; rw [sec_at (by rw [HL.out.1]; exact hN5) (by rw [HL.out.1]; omega), hx]
            have HT := Lib.hid hT
            obtain ⟨i, hi⟩ : ∃ i, i = b / 8 := ⟨_, rfl⟩
            obtain ⟨j, hj⟩ : ∃ j, j = b % 8 := ⟨_, rfl⟩
            have hj8 : j < 8 := by omega
            have hiN : (i : Int) < (N : Int) := by omega
            rw [← hi] at c0 e1
            rw [← hj] at e2 HT
            have hx8 : x < 256 := by
              rw [hx, List.getD_eq_getElem?_getD, List.getElem?_eq_getElem (by rw [HL.out.1]; omega)]
              exact HL.out.2.1 _ (List.getElem_mem _)
            have hcnt9 : (cntB (told l) b : Int) ≤ 4096 := by omega
            have hb9 : (b : Int) ≤ 4096 := by omega
            have hbt := bit_test ⟨x, hx8⟩ ⟨j, hj8⟩
            dsimp only at hbt
            rw [← HT.out] at hbt
            have HCN : Hid (∀ u : Nat, u = (if told l b then 1 else 0) → cntB (told l) (b + 1) = cntB (told l) b + u) := fun u hu => by rw [hu]; rfl
            obtain ⟨cn, hcn⟩ : ∃ cn, cn = cntB (told l) b := ⟨_, rfl⟩
            rw [← hcn] at hcnt hcnt9 HCN ⊢
            cases htb : told l b with
            | false =>
              rw [htb] at hbt
              have R : Hid (g2 = true ↔ (0 < N ∧ told l 0 = true ∧ told l 1 = true ∧ ∀ k, k < b + 1 → told l k = true → k < n)) := by
                show _ ↔ _
                rw [G2.out]
                refine ⟨fun h => ⟨h.1, h.2.1, h.2.2.1, fun k hk hkt => ?_⟩, fun h => ⟨h.1, h.2.1, h.2.2.1, fun k hk hkt => h.2.2.2 k (by omega) hkt⟩⟩
                by_cases e : k = b
                · rw [e, htb] at hkt; cases hkt
                · exact h.2.2.2 k (by omega) hkt
              have C1 : Hid (cntB (told l) (b + 1) = cn) := HCN.out 0 (by rw [htb]; rfl)
              clear hcell hx hi hj hT hcn HT HCN htb
              go_wp2_with fail
              go_round
              case rel => exact ⟨b + 1, g2, by omega, rfl, by rw [C1.out], by go_num, R.out⟩
              case measure => simp [intOf]; omega
            | true =>
              rw [htb] at hbt
              have C1 : Hid (cntB (told l) (b + 1) = cn + 1) := HCN.out 1 (by rw [htb]; rfl)
              have R : Hid ((g2 && decide (b < n)) = true ↔ (0 < N ∧ told l 0 = true ∧ told l 1 = true ∧ ∀ k, k < b + 1 → told l k = true → k < n)) := by
                show _ ↔ _
                rw [Bool.and_eq_true, decide_eq_true_eq, G2.out]
                refine ⟨fun h => ⟨h.1.1, h.1.2.1, h.1.2.2.1, fun k hk hkt => ?_⟩, fun h => ⟨⟨h.1, h.2.1, h.2.2.1, fun k hk hkt => h.2.2.2 k (by omega) hkt⟩, h.2.2.2 b (by omega) htb⟩⟩
                by_cases e : k = b
                · rw [e]; exact h.2
                · exact h.1.2.2.2 k (by omega) hkt
              clear hcell hx hi hj hT hcn HT HCN htb
              cases g2 with
              | false =>
                go_wp2_with fail
                go_round
                case rel => exact ⟨b + 1, false, by omega, rfl, by rw [C1.out]; go_num, by go_num, R.out⟩
                case measure => simp [intOf]; omega
              | true =>
                by_cases hbn : b < n
                · have hbn' : (b : Int) < (n : Int) := by omega
                  rw [decide_eq_true hbn] at R
                  go_wp2_with fail
                  go_round
                  case rel => exact ⟨b + 1, true, by omega, rfl, by rw [C1.out]; go_num, by go_num, R.out⟩
                  case measure => simp [intOf]; omega
                · have hbn' : ¬ (b : Int) < (n : Int) := by omega
                  rw [decide_eq_false hbn] at R
                  go_wp2_with fail
                  go_round
                  case rel => exact ⟨b + 1, false, by omega, rfl, by rw [C1.out]; go_num, by go_num, R.out⟩
                  case measure => simp [intOf]; omega
          · obtain rfl : b = 8 * N := by omega
            have C1 : Hid (cntB (told l) 4096 = cntB (told l) (8 * N)) := cntB_off (t := told l) (k := 8 * N) 4096 (by omega) (fun b h1 _ => told_off (by rw [HL.out.1]; exact hN5) (by rw [HL.out.1]; exact h1))
            have EQ : Hid ((g2 = true) ↔ ((∀ b, b < 4096 → n ≤ b → told l b = false) ∧ told l 0 = true ∧ told l 1 = true)) := by
              show _ ↔ _
              rw [G2.out]
              refine ⟨fun h => ⟨fun b _ hbn => ?_, h.2.1, h.2.2.1⟩, fun h => ⟨?_, h.2.1, h.2.2, fun k hk hkt => ?_⟩⟩
              · cases hb : told l b with
                | false => rfl
                | true =>
                  have h8 : b < 8 * N := by
                    rcases Nat.lt_or_ge b (8 * N) with h | h
                    · exact h
                    · rw [told_off (by rw [HL.out.1]; exact hN5) (by rw [HL.out.1]; exact h)] at hb; cases hb
                  have := h.2.2.2 b h8 hb
                  omega
              · rcases Nat.eq_zero_or_pos N with h0 | h0
                · have h9 := told_off (l := l) (b := 0) (by rw [HL.out.1]; exact hN5) (by rw [HL.out.1]; omega)
                  rw [h.2.1] at h9; cases h9
                · exact h0
              · rcases Nat.lt_or_ge k n with h9 | h9
                · exact h9
                · rw [h.1 k (by omega) h9] at hkt; cases hkt
            obtain ⟨cn, hcn⟩ : ∃ cn, cn = cntB (told l) (8 * N) := ⟨_, rfl⟩
            rw [← hcn] at hcnt C1 ⊢
            clear hcn
            cases g2 with
            | false =>
              obtain ⟨rfl, rfl, _⟩ | ⟨m, _, _, hok, _⟩ := CASE.out
              · go_wp2_with fail
                go_ret
                exact ⟨rfl, W3.out.below⟩
              · have := EQ.out.2 hok
                cases this
            | true =>
              obtain ⟨_, _, hno⟩ | ⟨m, rfl, rfl, hok, hM⟩ := CASE.out
              · exact absurd (EQ.out.1 rfl) hno
              · have US := used_any w3 m n _ _ hM
                rw [C1.out] at US
                have US := Lib.hid US
                have H0 := mhas_any w3 m n _ _ 0 hM hn2.2
                rw [show (0 : Int).toNat = 0 from rfl, hok.2.1, decide_eq_true (show 0 ≤ (0 : Int) ∧ (0 : Int) < (n : Int) by omega)] at H0
                have H0 := Lib.hid H0
                have H1 : ∀ q, Hid (Calls Try.prog 17 #[.pointer (some ⟨m, 0, none⟩), .int .i64 1] (w3.drewN q) fun e w' => e = .returned (.bool true) ∧ ∃ q', w' = w3.drewN q') := fun q => by
                  have h9 := mhas_any (w3.drewN q) m n _ _ 1 (hM.drewN q) hn2.2
                  rw [show (1 : Int).toNat = 1 from rfl, hok.2.2, decide_eq_true (show 0 ≤ (1 : Int) ∧ (1 : Int) < (n : Int) by omega)] at h9
                  exact Lib.hid (h9.mono fun _ _ ⟨h1, q', h2⟩ => ⟨h1, q + q', h2.trans (World.drewN_drewN _ _ _)⟩)
                clear hok hM CASE EQ G2
                go_wp2_with fail
                refine US.out.mono ?_
                rintro e w' ⟨rfl, rfl⟩
                go_wp2_with fail
                refine H0.out.mono ?_
                rintro e w4 ⟨rfl, q, rfl⟩
                go_wp2_with fail
                refine (H1 q).out.mono ?_
                rintro e w4 ⟨rfl, q2, rfl⟩
                go_wp2_with fail
                refine (store_no _ m).mono ?_
                rintro e w' ⟨rfl, rfl⟩
                go_wp2_with fail
                go_ret
                exact ⟨rfl, (W3.out.under (under_drewN _ q2)).below⟩
set_option maxRecDepth 100000 in
theorem opens {H : Type} {enc : TypeId × Value → H} {W : World} {base : Nat} {args : Array Value} {ds : List (DataW H)} {p : List MemPlace}
    (hval : ∀ (j : Nat) t v, Try.f4.params[j]? = some t → args[j]? = some v → Value.okWide Try.prog W .any base t v)
    (hA : DataW.TrodAll enc Try.prog W 0 (fun _ => true) true Try.f4.params.toList args.toList ds p) (hlt : ∀ x ∈ p, x.block < W.heap.size) (hsz : (DataW.weightsEach Try.prog Try.f4.params.toList ds).all (· ≤ reachBytes) = true) :
    Calls Try.prog 4 args W fun e W' => e = .returned (.bool true) ∧ Below W.heap.size W W' := by
  rw [Try.params4] at hA hval hsz
  obtain ⟨v0, vs0, d0, ds0, p0, q0, hargs, rfl, rfl, h0, r0⟩ := trodAll_cons hA
  obtain ⟨v1, vs1, d1, ds1, p1, q1, rfl, rfl, rfl, h1, r1⟩ := trodAll_cons r0
  obtain ⟨rfl, rfl, rfl⟩ := trodAll_nil r1
  obtain rfl : args = #[v0, v1] := by cases args; simp_all
  obtain ⟨z, rfl, _, _⟩ := open_i64 (hval 0 3 v0 rfl rfl) h0
  obtain ⟨A, N, c, l, rfl, hb, hN, hN2, _⟩ := open_bts Try.underlying48 Try.underlying5 cells5 (hval 1 48 v1 rfl rfl) h1
  exact walk z A N c l W hb (by have h7 : maxLen = 9223372036854775807 := rfl; omega)

set_option maxRecDepth 100000 in
theorem lifted (os : Os) (started : os.Started) (H : Type) (enc : TypeId × Value → H) :
    ReturnsInHanded {} Try.checked os 4 .any (Rows.spaceLoadsSpec.pre6 enc Try.prog Try.f4 Rows.spaceLoadsRow.domain false) (Rows.spaceLoadsSpec.post enc Try.prog Try.f4 false true false false) := by
  refine returnsInHanded_of_change_sized (C := Try.checked) own started (by kernel_rfl) Try.func4
    (ChangeSpec.witness6 (enc := enc) (C := Try.checked) false ⟨#[], #[.int .i64 0, .slice none 0 0], []⟩ 8 (by kernel_rfl) (by kernel_rfl) (by kernel_rfl) (by kernel_rfl)) ?_
  intro W base args ds gs before hval hW _ hsz0 _
  refine law_calls laidOut Try.underlying4 rfl (by rw [Try.params4]; exact of_decide_eq_true (by kernel_rfl)) rfl (fun ds h => by match ds, h with | [_, _], _ => rfl) hW ?_
  obtain ⟨rfl, p, hA, hlt⟩ := law_args rfl hW
  have hsz : (DataW.weightsEach Try.prog (Try.f4.params.toList ++ []) (ds ++ [])).all (· ≤ reachBytes) = true := hsz0
  rw [List.append_nil, List.append_nil] at hsz
  exact opens hval hA hlt hsz

theorem over : Rows.spaceLoadsRow.holds Try.pinned (OpenSpec.ofChange Rows.spaceLoadsSpec) :=
  OpenClaim.holds_of_wide 4 Try.f4 rfl rfl rfl rfl rfl rfl rfl ⟨rfl, rfl, rfl, rfl, rfl⟩ rfl rfl rfl rfl rfl (by kernel_rfl) Try.func4 (by kernel_rfl)
    (of_decide_eq_true (by kernel_rfl)) (by unfold Func.isWrapper; first | (rw [if_pos (by decide +kernel)]; kernel_rfl) | (rw [if_neg (by decide +kernel)]; exact ⟨rfl, rfl⟩))
    (fun os started H enc _ => lifted os started H enc)

theorem proved : Rows.SpaceLoadsSaid := over

end Go.Proofs.Ytdcnkokaimbfiaa.spaceLoads
