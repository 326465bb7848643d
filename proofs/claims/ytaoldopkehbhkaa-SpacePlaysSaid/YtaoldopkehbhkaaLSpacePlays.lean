/-
  P5.1 to P5.3: whatever is taken, given back, stored and loaded anew, each answer is the chapter's: the law answers true for every input, and its arguments read behind the call as before. No condition beside the row's own.
-/
import Derived.Test.YtaoldopkehbhkaaSpOps
namespace Go.Proofs.Ytaoldopkehbhkaa.spacePlays
open Go.ChangeShapes Go.WideShapes Go.ChangeAt Go.RowKit

theorem own : ownKnob Try.prog.godebug = none := by kernel_rfl
theorem laidOut : laidOutB Try.prog = true := by kernel_rfl
theorem both {w0 w w5 w6 : World} {P : PS} {tx tm : Nat} {f : Nat → Option (List Nat)} {m g q r n c d : Nat} {t o t' : Nat → Bool} (h : Side w0 w P tx tm f m g q r n c d t o) (ho : Only [m] w w5) (hM : MapOf w5 m n t' o) (ho6 : Only [q] w5 w6) (hR : RMap w6 g q r n c d t' o) (hf : Fits t' n) : Side w0 w6 P tx tm f m g q r n c d t' o :=
  ⟨(h.mapTurned ho).1.beside ho6 h.q0.1 h.q0.2, hM.only ho6 (by simpa using h.mq), hR, hf, h.m0, h.g0, h.q0, h.r0, h.mg, h.mq, h.mr⟩
theorem both2 {w0 w w5 w6 : World} {P : PS} {tx tm : Nat} {f : Nat → Option (List Nat)} {m g q r n c d : Nat} {t o t' : Nat → Bool} (h : Side w0 w P tx tm f m g q r n c d t o) (ho : Only [q] w w5) (hR : RMap w5 g q r n c d t' o) (ho6 : Only [m] w5 w6) (hM : MapOf w6 m n t' o) (hf : Fits t' n) : Side w0 w6 P tx tm f m g q r n c d t' o :=
  ⟨(h.refTurned ho).1.beside ho6 h.m0.1 h.m0.2, hM, hR.only ho6 (by simpa using h.mg.symm) (by simpa using h.mq.symm) (by simpa using h.mr.symm), hf, h.m0, h.g0, h.q0, h.r0, h.mg, h.mq, h.mr⟩
theorem free_side (m g q r n c d : Nat) (t o : Nat → Bool) (b : Int) (hf : Fits t n) (hn : n ≤ 4096) : ∃ z : Nat, ∃ t', Fits t' n ∧
    (∀ X, MapOf X m n t o → Calls Try.prog 11 #[.pointer (some ⟨m, 0, none⟩), .int .i64 b] X fun e w' => e = .returned (.int .i64 (z : Nat)) ∧ Only [m] X w' ∧ MapOf w' m n t' o) ∧
    (∀ X, RMap X g q r n c d t o → Calls Try.prog 12 #[.pointer (some ⟨g, 0, none⟩), .int .i64 b] X fun e w' => e = .returned (.int .i64 (z : Nat)) ∧ Only [q] X w' ∧ RMap w' g q r n c d t' o) := by
  by_cases h : 2 ≤ b ∧ b < (n : Int) ∧ t b.toNat = true
  · exact ⟨0, putB t b.toNat false, hf.free (by omega), fun X hX => (free_any X m n t o b hX hn).mono fun e w' ⟨h1, h2, _⟩ => ⟨(h2 h).1, h1, (h2 h).2⟩, fun X hX => (rfree_any X g q r n c d t o b hX hn).mono fun e w' hh => by
      unfold RFreed at hh
      obtain ⟨h1, h2, _⟩ := hh
      exact ⟨(h2 h).1, h1, (h2 h).2⟩⟩
  · exact ⟨1, t, hf, fun X hX => (free_any X m n t o b hX hn).mono fun e w' ⟨h1, _, h2⟩ => ⟨(h2 h).1, h1, (h2 h).2⟩, fun X hX => (rfree_any X g q r n c d t o b hX hn).mono fun e w' hh => by
      unfold RFreed at hh
      obtain ⟨h1, _, h2⟩ := hh
      exact ⟨(h2 h).1, h1, (h2 h).2⟩⟩
theorem ne_self (a : Int) : (a != a) = false := by simp
theorem used_side {w0 w : World} {P : PS} {tx tm : Nat} {f : Nat → Option (List Nat)} {m g q r n c d : Nat} {t o : Nat → Bool} (h : Side w0 w P tx tm f m g q r n c d t o) (hn : n ≤ 4096) : ∃ u : Nat,
    (Calls Try.prog 18 #[.pointer (some ⟨m, 0, none⟩)] w fun e w' => e = .returned (.int .i64 (u : Nat)) ∧ w = w') ∧
    (Calls Try.prog 19 #[.pointer (some ⟨g, 0, none⟩)] w fun e w' => e = .returned (.int .i64 (u : Nat)) ∧ w = w') :=
  ⟨cntB t n, by have := used_any w m n t o h.map; rwa [h.fits.cnt' hn] at this, rused_any w g q r n c d t o h.ref hn⟩
set_option maxRecDepth 100000 in
set_option maxHeartbeats 3200000 in
theorem walk (x : Nat) (hx : x < 256) (A : Option Addr) (N c : Nat) (l : Nat → Nat × Int) (w : World) (hl : SOps w A N l) (hN : N ≤ 9223372036854775807) :
    Calls Try.prog 3 #[.int .u8 (x : Int), .slice A N c] w fun e w' => e = .returned (.bool true) ∧ Below w.heap.size w w' := by
  have HL := Lib.hid hl
  obtain ⟨n, hn⟩ : ∃ n, n = 2 + x := ⟨_, rfl⟩
  have en : (2 : Int) + (x : Int) = (n : Int) := by omega
  have hn2 : 2 ≤ n := by omega
  have hn9 : n ≤ 257 := by omega
  have hni : (n : Int) ≤ 257 := by omega
  have hni2 : (2 : Int) ≤ (n : Int) := by omega
  have EN := Lib.hid en
  have hN9 : (N : Int) ≤ 9223372036854775807 := by omega
  clear hl hn en
  go_enter Try.func3, Try.ntmps3
  go_wp2_with fail
  refine (fixed_any _).mono ?_
  rintro e w0 ⟨rfl, hb0⟩
  have B0 := Lib.hid hb0
  have PG := Lib.hid (pages_any w0 n (by omega) (by omega))
  clear hb0
  go_wp2_with fail
  rw [EN.out]
  refine PG.out.mono ?_
  rintro e w1 ⟨P, t, tm, rfl, hp, _, _, hb, hnew⟩
  have W1 : Hid (Own w w1 P t tm (fun _ => none)) := ⟨hp, B0.out.trans (hb.mono B0.out.size), fun z hz => Nat.le_trans B0.out.size (hnew z hz)⟩
  have MK := Lib.hid (smake_any w1 P t tm _ n hp (by omega))
  clear hp hb hnew PG B0
  go_wp2_with fail
  refine MK.out.mono ?_
  rintro e w2 ⟨rfl, l1, hl1, hp2, ho2⟩
  have W2 := Lib.hid (W1.out.wrote hp2 ho2)
  have LD := Lib.hid (sload_ok w2 P t tm _ n l1 two hp2 hl1 (got_upd _ _ _) (by omega) (made_ok n hn2))
  clear MK W1 hp2 ho2 hl1
  go_wp2_with fail
  refine LD.out.mono ?_
  rintro e w3 ⟨m, rfl, hp3, ho3, hm3, hM3⟩
  have W3 := Lib.hid (W2.out.read hp3 ho3)
  have MM : Hid (w.heap.size ≤ m ∧ m ∉ pfoot P t tm) := ⟨Nat.le_trans W2.out.below.size hm3, W2.out.far hm3⟩
  have M3 := Lib.hid hM3
  have RK := Lib.hid (rmake_any w3 n (by omega))
  clear LD W2 hp3 ho3 hm3 hM3
  go_wp2_with fail
  refine RK.out.mono ?_
  rintro e w4 ⟨g, q, r, rfl, hR⟩
  have S0 : Hid (∃ d e f, Side w w4 P t tm f m g q r n d e two two) := by
    obtain ⟨hR, hg, hq, hr, hb⟩ := hR
    have hs := W3.out.below.size
    have hlt := M3.out.lt
    exact ⟨n, n, _, W3.out.under hb, M3.out.under hb, hR, Fits.two hn2, MM.out, ⟨by omega, W3.out.far hg⟩, ⟨by omega, W3.out.far hq⟩, ⟨by omega, W3.out.far hr⟩, by omega, by omega, by omega⟩
  clear RK hR W3 MM M3
  go_wp2_with fail
  go_loopw [8, 9, 10, 11] (fun mv ev rv iv wr => ∃ i : Nat, ∃ m g q r d e f T O, i ≤ N ∧ mv = .pointer (some ⟨m, 0, none⟩) ∧ ev = .int .i64 0 ∧ rv = .pointer (some ⟨g, 0, none⟩) ∧ iv = .int .i64 (i : Nat) ∧ Side w wr P t tm f m g q r n d e T O) (fun _ _ _ iv _ => N - (intOf iv).toNat)
  case atStart =>
    obtain ⟨d, e, f, h⟩ := S0.out
    exact ⟨0, m, g, q, r, d, e, f, two, two, by omega, rfl, rfl, rfl, rfl, h⟩
  case round =>
    clear S0
    obtain ⟨i, m2, g2, q2, r2, dd, ee, f, T, O, hi, rfl, rfl, rfl, rfl, hS⟩ := hrel
    have S := Lib.hid hS
    clear hS
    by_cases hlt : i < N
    · have hlt' : (i : Int) < (N : Int) := by omega
      obtain ⟨gb, off, rfl, hg, hcell⟩ := HL.out.2 (by omega)
      have hO := HL.out.1 i hlt
      have c0 := (S.out.own.below.cell (p := ⟨gb, off + i * 2, none⟩) hg).trans (hcell i hlt).1
      have c1 := (S.out.own.below.cell (p := ⟨gb, off + i * 2 + 1, none⟩) hg).trans (hcell i hlt).2
      obtain ⟨⟨k, b⟩, hv⟩ : ∃ v, v = l i := ⟨_, rfl⟩
      rw [← hv] at c0 c1 hO
      dsimp only at c0 c1 hO
      clear hv hcell
      obtain ⟨hk8, hb1, hb2⟩ := hO
      have hk9 : (k : Int) < 256 := by omega
      have e4 : ((k : Int)).tmod 4 = ((k % 4 : Nat) : Int) := by
        rw [Int.tmod_eq_emod_of_nonneg (by omega)]
        omega
      obtain ⟨j, hj⟩ : ∃ j, j = k % 4 := ⟨_, rfl⟩
      rw [← hj] at e4
      have hj4 : j = 0 ∨ j = 1 ∨ j = 2 ∨ j = 3 := by omega
      clear hj
      go_upto_region 13 with fail
      have S1 : Hid (Side w (wr.alloc (.cells #[.int .u8 (k : Int), .int .i64 b] 36)) P t tm f m2 g2 q2 r2 n dd ee T O) := S.out.under ((Below.refl _ _).alloc (Nat.le_refl _) _)
      have V : Hid (Held (wr.alloc (.cells #[.int .u8 (k : Int), .int .i64 b] 36)) wr.heap.size 36 #[.int .u8 (k : Int), .int .i64 b] ∧ wr.heap.size ≠ m2 ∧ wr.heap.size ≠ q2) := ⟨Held.new _ _ _ rfl, by have := S.out.map.lt; omega, by have := S.out.ref.now.lt (by omega); omega⟩
      generalize World.alloc _ _ = W at S1 V ⊢
      generalize wr.heap.size = v at V ⊢
      have c0 := V.out.1.cell 0
      dsimp at c0
      clear S
      rcases hj4 with rfl | rfl | rfl | rfl
      · have TK := Lib.hid (take_any W m2 n T O S1.out.map (by omega))
        go_wp2_with fail
        refine TK.out.mono ?_
        rintro e w5 ⟨ho5, b5, hF, hres⟩
        have TR := Lib.hid (rtake_any w5 g2 q2 r2 n dd ee T O (S1.out.mapTurned ho5).2 (by omega))
        have HO5 := Lib.hid ho5
        have HF := Lib.hid hF
        clear ho5 hF TK
        obtain ⟨hge, rfl, hM5⟩ | ⟨hlt5, rfl, hM5⟩ := hres
        · have M5 := Lib.hid hM5
          clear hM5
          go_wp2_with fail
          refine TR.out.mono ?_
          rintro e w6 ⟨ho6, c6, hR, hres⟩
          have FM := free_meet HF.out hR (by omega)
          obtain ⟨hc6, rfl, hR6⟩ | ⟨hc6, rfl, hR6⟩ := hres
          · have S6 := Lib.hid (both S1.out HO5.out M5.out ho6 hR6 S1.out.fits)
            obtain ⟨u, hu1, hu2⟩ := used_side S6.out (by omega)
            have U1 := Lib.hid hu1
            have U2 := Lib.hid hu2
            clear TR ho6 hR hR6 FM hu1 hu2
            go_wp2_with fail
            refine U1.out.mono ?_
            rintro e w7 ⟨rfl, rfl⟩
            go_wp2_with fail
            refine U2.out.mono ?_
            rintro e w7 ⟨rfl, rfl⟩
            go_wp2_with fail
            go_roundw
            case rel => exact ⟨i + 1, _, _, _, _, _, _, _, _, _, by omega, rfl, rfl, rfl, by go_num, S6.out⟩
            case measure => simp [intOf]; omega
          · have := FM.2 hc6
            omega
        · have M5 := Lib.hid hM5
          clear hM5
          go_wp2_with fail
          refine TR.out.mono ?_
          rintro e w6 ⟨ho6, c6, hR, hres⟩
          have FM := free_meet HF.out hR (by omega)
          obtain ⟨hc6, rfl, hR6⟩ | ⟨hc6, rfl, hR6⟩ := hres
          · have := FM.1 hc6
            omega
          · obtain rfl : b5 = c6 := FM.2 hc6
            have S6 := Lib.hid (both S1.out HO5.out M5.out ho6 hR6 (S1.out.fits.take hlt5))
            obtain ⟨u, hu1, hu2⟩ := used_side S6.out (by omega)
            have U1 := Lib.hid hu1
            have U2 := Lib.hid hu2
            clear TR ho6 hR hR6 FM hu1 hu2
            go_wp2_with fail
            refine U1.out.mono ?_
            rintro e w7 ⟨rfl, rfl⟩
            go_wp2_with fail
            refine U2.out.mono ?_
            rintro e w7 ⟨rfl, rfl⟩
            go_wp2_with fail
            go_roundw
            case rel => exact ⟨i + 1, _, _, _, _, _, _, _, _, _, by omega, rfl, rfl, rfl, by go_num, S6.out⟩
            case measure => simp [intOf]; omega
      · obtain ⟨z, T', hf', hfm, hfr⟩ := free_side m2 g2 q2 r2 n dd ee T O b S1.out.fits (by omega)
        have F' := Lib.hid hf'
        have FM := Lib.hid hfm
        have FR := Lib.hid hfr
        have S2 := Lib.hid (S1.out.under (w' := W.drew) ((Below.refl _ _).drew))
        have V2 : Hid (Held W.drew v 36 #[.int .u8 (k : Int), .int .i64 b] ∧ v ≠ m2 ∧ v ≠ q2) := ⟨V.out.1.drew, V.out.2⟩
        have c1 := V.out.1.cell 1
        dsimp at c1
        clear hf' hfm hfr
        go_wp2_with fail
        go_region_with (first
          | (go_at_call 11; refine (FM.out _ (by first | exact M0.out | exact S2.out.map)).mono ?_; rintro e w5 ⟨rfl, ho5, hM5⟩; have M5 := Lib.hid hM5; have HO5 := Lib.hid ho5; (try have R0 := Lib.hid (S2.out.mapTurned ho5).2); (try have cv := (V2.out.1.only ho5 (by simpa using V2.out.2.1)).cell 1); (try dsimp at cv); clear hM5 ho5)
          | (go_at_call 12; refine (FR.out _ (by first | exact R0.out | exact S2.out.ref)).mono ?_; rintro e w6 ⟨rfl, ho6, hR6⟩; have R6 := Lib.hid hR6; have HO6 := Lib.hid ho6; (try have M0 := Lib.hid (S2.out.refTurned ho6).2); (try have cv := (V2.out.1.only ho6 (by simpa using V2.out.2.2)).cell 1); (try dsimp at cv); clear hR6 ho6))
        all_goals
          have S6 := Lib.hid (both S2.out HO5.out M5.out HO6.out R6.out F'.out)
          obtain ⟨u, hu1, hu2⟩ := used_side S6.out (by omega)
          have U1 := Lib.hid hu1
          have U2 := Lib.hid hu2
          clear FM FR R0 hu1 hu2
          go_wp2_with fail
          refine U1.out.mono ?_
          rintro e w7 ⟨rfl, rfl⟩
          go_wp2_with fail
          refine U2.out.mono ?_
          rintro e w7 ⟨rfl, rfl⟩
          go_wp2_with fail
          go_roundw
          case rel => exact ⟨i + 1, _, _, _, _, _, _, _, _, _, by omega, rfl, rfl, rfl, by go_num, S6.out⟩
          case measure => simp [intOf]; omega
      · have c1 := V.out.1.cell 1
        dsimp at c1
        have MH : ∀ x, x = (decide (0 ≤ b ∧ b < (n : Int)) && T b.toNat) → ∀ k, Hid (Calls Try.prog 13 #[.pointer (some ⟨m2, 0, none⟩), .int .i64 b] (W.drewN k) fun e w' => e = .returned (.bool x) ∧ ∃ q, w' = (W.drewN k).drewN q) := fun x hx k => by
          rw [hx]
          exact Lib.hid (mhas_any (W.drewN k) m2 n T O b (S1.out.map.drewN k) (by omega))
        by_cases hb0 : b ≥ 0
        · by_cases hbn : b < (n : Int)
          · obtain ⟨kb, rfl⟩ : ∃ kb : Nat, b = (kb : Int) := ⟨b.toNat, by omega⟩
            obtain ⟨y, hy⟩ : ∃ y, y = T kb := ⟨_, rfl⟩
            have MH := MH y (by rw [hy, decide_eq_true ⟨hb0, hbn⟩, Int.toNat_natCast, Bool.true_and])
            have rn := S1.out.ref.now.at_ kb (by omega)
            rw [← hy] at rn
            have rb := S1.out.ref.blk.cell 0
            dsimp at rb
            clear hy
            go_wp2_with fail
            go_quiet ((go_at_call 13; exact Calls.quiet_of (MH _).out))
            have S6 := Lib.hid (S1.out.under (under_drewN _ nq))
            clear MH rn rb
            obtain ⟨u, hu1, hu2⟩ := used_side S6.out (by omega)
            have U1 := Lib.hid hu1
            have U2 := Lib.hid hu2
            clear hu1 hu2
            go_wp2_with fail
            refine U1.out.mono ?_
            rintro e w7 ⟨rfl, rfl⟩
            go_wp2_with fail
            refine U2.out.mono ?_
            rintro e w7 ⟨rfl, rfl⟩
            go_wp2_with fail
            go_roundw
            case rel => exact ⟨i + 1, _, _, _, _, _, _, _, _, _, by omega, rfl, rfl, rfl, by go_num, S6.out⟩
            case measure => simp [intOf]; omega
          · have MH := MH false (by rw [decide_eq_false (fun h => hbn h.2), Bool.false_and])
            obtain ⟨kb, rfl⟩ : ∃ kb : Nat, b = (kb : Int) := ⟨b.toNat, by omega⟩
            have hd : decide (kb < n) = false := decide_eq_false (by omega)
            have hle : (n : Int) ≤ (kb : Int) := by omega
            clear hbn
            go_wp2_with fail
            go_quiet ((go_at_call 13; exact Calls.quiet_of (MH _).out))
            have S6 := Lib.hid (S1.out.under (under_drewN _ nq))
            obtain ⟨u, hu1, hu2⟩ := used_side S6.out (by omega)
            have U1 := Lib.hid hu1
            have U2 := Lib.hid hu2
            clear hu1 hu2
            go_wp2_with fail
            refine U1.out.mono ?_
            rintro e w7 ⟨rfl, rfl⟩
            go_wp2_with fail
            refine U2.out.mono ?_
            rintro e w7 ⟨rfl, rfl⟩
            go_wp2_with fail
            go_roundw
            case rel => exact ⟨i + 1, _, _, _, _, _, _, _, _, _, by omega, rfl, rfl, rfl, by go_num, S6.out⟩
            case measure => simp [intOf]; omega
        · have MH := MH false (by rw [decide_eq_false (fun h => hb0 h.1), Bool.false_and])
          have hd : decide (0 ≤ b) = false := decide_eq_false hb0
          have hd2 : b < 0 := by omega
          clear hb0
          go_wp2_with fail
          go_quiet ((go_at_call 13; exact Calls.quiet_of (MH _).out))
          have S6 := Lib.hid (S1.out.under (under_drewN _ nq))
          obtain ⟨u, hu1, hu2⟩ := used_side S6.out (by omega)
          have U1 := Lib.hid hu1
          have U2 := Lib.hid hu2
          clear hu1 hu2
          go_wp2_with fail
          refine U1.out.mono ?_
          rintro e w7 ⟨rfl, rfl⟩
          go_wp2_with fail
          refine U2.out.mono ?_
          rintro e w7 ⟨rfl, rfl⟩
          go_wp2_with fail
          go_roundw
          case rel => exact ⟨i + 1, _, _, _, _, _, _, _, _, _, by omega, rfl, rfl, rfl, by go_num, S6.out⟩
          case measure => simp [intOf]; omega
      · have HB : Hid (m2 ∉ [P.p, tm] ∧ g2 ∉ [P.p, tm] ∧ q2 ∉ [P.p, tm] ∧ r2 ∉ [P.p, tm]) := by
          have hh : ∀ x, x ∉ pfoot P t tm → x ∉ [P.p, tm] := fun x h h2 => h (by
            simp only [List.mem_cons, List.not_mem_nil, or_false] at h2
            rcases h2 with rfl | rfl <;> simp [pfoot])
          exact ⟨hh _ S1.out.m0.2, hh _ S1.out.g0.2, hh _ S1.out.q0.2, hh _ S1.out.r0.2⟩
        have ST := Lib.hid (mstore_any W m2 n T O P t tm f S1.out.map S1.out.own.pages)
        go_wp2_with fail
        refine ST.out.mono ?_
        rintro e w5 ⟨rfl, ho5, l5, hl5, hp5⟩
        have S5 : Hid (Side w w5 P t tm (upd f 0 l5) m2 g2 q2 r2 n dd ee T O) := by
          have s := S1.out
          exact ⟨s.own.wrote hp5 ho5, s.map.only ho5 HB.out.1, s.ref.only ho5 HB.out.2.1 HB.out.2.2.1 HB.out.2.2.2, s.fits, s.m0, s.g0, s.q0, s.r0, s.mg, s.mq, s.mr⟩
        have L5 := Lib.hid hl5
        have TR := tread_any w5 P t tm (upd f 0 l5) 0 hp5.pag hp5.tx hp5.n hp5.dead hp5.mdead
        rw [got_upd] at TR
        have TR := Lib.hid TR
        clear ST S1 V ho5 hl5 hp5 c0
        go_wp2_with fail
        refine TR.out.mono ?_
        rintro e w6 ⟨⟨⟨q6, T6, rfl, hq6, hh6⟩, hpag6, ho6⟩, hk6⟩
        have e5 : ({ P with dead := false } : PS) = P := by rw [← S5.out.own.pages.dead]
        rw [e5] at hpag6
        have S6 : Hid (Side w w6 P t tm (upd f 0 l5) m2 g2 q2 r2 n dd ee T O) := by
          have s := S5.out
          have hp : Pages w6 P t tm (upd f 0 l5) := ⟨hpag6, hk6, s.own.pages.dead, s.own.pages.mdead, s.own.pages.n⟩
          have hh : ∀ x, x ∉ [P.p, tm] → x ∉ [P.p] := fun x h h2 => h (by simp only [List.mem_singleton] at h2; simp [h2])
          exact ⟨s.own.read hp ho6, s.map.only ho6 (hh _ HB.out.1), s.ref.only ho6 (hh _ HB.out.2.1) (hh _ HB.out.2.2.1) (hh _ HB.out.2.2.2), s.fits, s.m0, s.g0, s.q0, s.r0, s.mg, s.mq, s.mr⟩
        have Q6 := Lib.hid hh6
        clear TR S5 hq6 hh6 hpag6 ho6 hk6 e5
        obtain ⟨z, hz⟩ : ∃ z, z = strB l5 := ⟨_, rfl⟩
        have RB : Hid (Calls Try.prog 16 #[.pointer (some ⟨g2, 0, none⟩)] w6.drew fun e w' => e = .returned (.string z) ∧ Below w6.drew.heap.size w6.drew w') :=
          (rbytes_any w6.drew g2 q2 r2 n dd ee T O (S6.out.ref.drewN 1) (by omega)).mono fun e w' ⟨⟨l7, h7, h8⟩, h9⟩ => by
            rw [S6.out.fits.whole] at h8
            rw [h8.one L5.out, ← hz] at h7
            exact ⟨h7, h9⟩
        have QL : Hid (q6 < w6.heap.size) := Q6.out.lt
        have B6 : Hid (Bts w6.drew (some ⟨q6, 0, none⟩) 512 l5) := (Q6.out.bts L5.out.blk).drewN 1
        have hcv : (convert 48 9 (.slice (some ⟨q6, 0, none⟩) 512 512)).run Try.prog w6.drew = .ok (.string z) w6.drew := by rw [hz]; exact B6.out.toStr byteT Try.underlying9 512
        have HZ := Lib.hid hz
        clear hz
        go_wp2_with fail
        go_region_with ((go_at_call 16; refine RB.out.mono ?_; rintro e w7 ⟨rfl, hb7⟩; have B7 := Lib.hid hb7; have hcv7 : (convert 48 9 (.slice (some ⟨q6, 0, none⟩) 512 512)).run Try.prog w7 = .ok (.string z) w7 := (by rw [HZ.out]; exact (B6.out.kept hb7).toStr byteT Try.underlying9 512); clear hb7))
        all_goals
          have S7 := Lib.hid (S6.out.under (((Below.refl _ _).drew).trans B7.out))
          have LD := Lib.hid (sload_ok w7 P t tm _ n l5 T S7.out.own.pages L5.out (got_upd _ _ _) (by omega) ⟨fun b _ h => S7.out.fits.off b h, S7.out.fits.z0, S7.out.fits.z1⟩)
          clear S6 B6 B7 RB hcv
          go_wp2_with fail
          refine LD.out.mono ?_
          rintro e w8 ⟨m8, rfl, hp8, ho8, hm8, hM8⟩
          have hh : ∀ x, x ∉ [P.p, tm] → x ∉ [P.p] := fun x h h2 => h (by simp only [List.mem_singleton] at h2; simp [h2])
          have R8 := Lib.hid (S7.out.ref.only ho8 (hh _ HB.out.2.1) (hh _ HB.out.2.2.1) (hh _ HB.out.2.2.2))
          have O8 := Lib.hid (S7.out.own.read hp8 ho8)
          have M8 : Hid (MapOf w8 m8 n T T ∧ w.heap.size ≤ m8 ∧ m8 ∉ pfoot P t tm) := ⟨hM8, Nat.le_trans S7.out.own.below.size hm8, S7.out.own.far hm8⟩
          have AG := Lib.hid (ragain_any w8 g2 q2 r2 n dd ee T O R8.out (by omega) (by omega))
          have FT := Lib.hid S7.out.fits
          clear LD hp8 ho8 hm8 hM8 hh S7
          go_wp2_with fail
          refine AG.out.mono ?_
          rintro e w9 hA
          obtain ⟨g9, q9, r9, d9, e9, rfl, hS9⟩ := Side.again O8.out M8.out.1 M8.out.2 FT.out hA rfl
          have S9 := Lib.hid hS9
          clear AG hA hS9 R8 O8 M8 FT
          obtain ⟨u, hu1, hu2⟩ := used_side S9.out (by omega)
          have U1 := Lib.hid hu1
          have U2 := Lib.hid hu2
          clear hu1 hu2
          go_wp2_with fail
          refine U1.out.mono ?_
          rintro e w7 ⟨rfl, rfl⟩
          go_wp2_with fail
          refine U2.out.mono ?_
          rintro e w7 ⟨rfl, rfl⟩
          go_wp2_with fail
          go_roundw
          case rel => exact ⟨i + 1, _, _, _, _, _, _, _, _, _, by omega, rfl, rfl, rfl, by go_num, S9.out⟩
          case measure => simp [intOf]; omega
    · obtain rfl : i = N := by omega
      go_wp2_with fail
      go_ret
      exact ⟨rfl, S.out.own.below⟩
set_option maxRecDepth 100000 in
theorem opens {H : Type} {enc : TypeId × Value → H} {W : World} {base : Nat} {args : Array Value} {ds : List (DataW H)} {p : List MemPlace}
    (hval : ∀ (j : Nat) t v, Try.f3.params[j]? = some t → args[j]? = some v → Value.okWide Try.prog W .any base t v)
    (hA : DataW.TrodAll enc Try.prog W 0 (fun _ => true) true Try.f3.params.toList args.toList ds p) (hlt : ∀ x ∈ p, x.block < W.heap.size) (hsz : (DataW.weightsEach Try.prog Try.f3.params.toList ds).all (· ≤ reachBytes) = true) :
    Calls Try.prog 3 args W fun e W' => e = .returned (.bool true) ∧ Below W.heap.size W W' := by
  rw [Try.params3] at hA hval hsz
  obtain ⟨v0, vs0, d0, ds0, p0, q0, hargs, rfl, rfl, h0, r0⟩ := trodAll_cons hA
  obtain ⟨v1, vs1, d1, ds1, p1, q1, rfl, rfl, rfl, h1, r1⟩ := trodAll_cons r0
  obtain ⟨rfl, rfl, rfl⟩ := trodAll_nil r1
  obtain rfl : args = #[v0, v1] := by cases args; simp_all
  obtain ⟨x, rfl, hx⟩ := open_u8 (hval 0 5 v0 rfl rfl) h0
  obtain ⟨A, N, c, l, rfl, hs, hN⟩ := open_sops (hval 1 22 v1 rfl rfl) h1
  exact walk x hx A N c l W hs hN

set_option maxRecDepth 100000 in
theorem lifted (os : Os) (started : os.Started) (H : Type) (enc : TypeId × Value → H) :
    ReturnsInHanded {} Try.checked os 3 .any (Rows.spacePlaysSpec.pre6 enc Try.prog Try.f3 Rows.spacePlaysRow.domain false) (Rows.spacePlaysSpec.post enc Try.prog Try.f3 false true false false) := by
  refine returnsInHanded_of_change_sized (C := Try.checked) own started (by kernel_rfl) Try.func3
    (ChangeSpec.witness6 (enc := enc) (C := Try.checked) false ⟨#[], #[.int .u8 0, .slice none 0 0], []⟩ 8 (by kernel_rfl) (by kernel_rfl) (by kernel_rfl) (by kernel_rfl)) ?_
  intro W base args ds gs before hval hW _ hsz0 _
  refine law_calls laidOut Try.underlying4 rfl (by rw [Try.params3]; exact of_decide_eq_true (by kernel_rfl)) rfl (fun ds h => by match ds, h with | [_, _], _ => rfl) hW ?_
  obtain ⟨rfl, p, hA, hlt⟩ := law_args rfl hW
  have hsz : (DataW.weightsEach Try.prog (Try.f3.params.toList ++ []) (ds ++ [])).all (· ≤ reachBytes) = true := hsz0
  rw [List.append_nil, List.append_nil] at hsz
  exact opens hval hA hlt hsz

theorem over : Rows.spacePlaysRow.holds Try.pinned (OpenSpec.ofChange Rows.spacePlaysSpec) :=
  OpenClaim.holds_of_wide 3 Try.f3 rfl rfl rfl rfl rfl rfl rfl ⟨rfl, rfl, rfl, rfl, rfl⟩ rfl rfl rfl rfl rfl (by kernel_rfl) Try.func3 (by kernel_rfl)
    (of_decide_eq_true (by kernel_rfl)) (by unfold Func.isWrapper; first | (rw [if_pos (by decide +kernel)]; kernel_rfl) | (rw [if_neg (by decide +kernel)]; exact ⟨rfl, rfl⟩))
    (fun os started H enc _ => lifted os started H enc)

theorem proved : Rows.SpacePlaysSaid := over

end Go.Proofs.Ytaoldopkehbhkaa.spacePlays
