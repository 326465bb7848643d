/-
  P3.3: a log goes round for ever: what is appended, synced and trimmed again and again, always finds room, if it found room once: the law answers true for every input, and its arguments read behind the call as before. No condition beside the row's own.
-/
import Derived.Test.YtacpgahbfmpiiaaMRing
namespace Go.Proofs.Ytacpgahbfmpiiaa.walRound
open Go.ChangeShapes Go.WideShapes Go.ChangeAt Go.RowKit Wal

theorem own : ownKnob Try.prog.godebug = none := by kernel_rfl
theorem laidOut : laidOutB Try.prog = true := by kernel_rfl

/-- The log ahead of round i. -/
structure At (w wr : World) (R i : Nat) (b : Nat) (G : List Nat) (s : LS) (d : Nat) (F : List Nat) (m : Dsk.DM) : Prop where
  lives : LLives w wr b G s d F m
  inv : Wal.Inv s m []
  fuel : m.fuel = -1
  wait : m.wait.length = 0
  frm : s.frm = 0
  ring : s.ring = R - 1
  first : s.first = i + 1
  synced : s.synced = i
  size : m.dur.length = R

set_option maxRecDepth 100000 in
set_option maxHeartbeats 3200000 in
theorem walk (n : Nat) (hn : n < 256) (A : Option Addr) (k c : Nat) (l : List ByteArray) (t : Nat) (ht : t < 256) (w : World) (hl : Strs w A k l) (hk : k ≤ 8796093022208) :
    Calls Try.prog 9 #[.int .u8 (n : Int), .slice A k c, .int .u8 (t : Int)] w fun e w' => e = .returned (.bool true) ∧ Below w.heap.size w w' := by
  have HL := Lib.hid hl
  have RN := ringN_le n
  have RA := fun W => Lib.hid (ring_any W n hn)
  have CR := Lib.hid (clamp_ring n)
  obtain ⟨R, hR⟩ : ∃ R, R = ringN n := ⟨_, rfl⟩
  rw [← hR] at RN CR
  simp only [← hR] at RA
  clear hl hR
  go_enter Try.func9, Try.ntmps9
  go_wp2_with fail
  refine (fixed_any _).mono ?_
  rintro e w1 ⟨rfl, hbel⟩
  have BF := Lib.hid hbel
  clear hbel
  go_wp2_with fail
  refine (RA _).out.mono ?_
  rintro e w' ⟨rfl, rfl⟩
  go_wp2_with fail
  refine (new_any _ _).mono ?_
  intro e w2 hm
  obtain ⟨d, F, rfl, hL⟩ := hm.lives
  rw [CR.out] at hL
  have L2 : Hid (Lives w w2 d F (Dsk.fresh R)) := ⟨hL.disk, BF.out.trans (hL.below.mono BF.out.size), fun x hx => Nat.le_trans BF.out.size (hL.new x hx)⟩
  have hlen : Hid ((Dsk.fresh R).dur.length = R) := by show _ = _; simp [Dsk.fresh]
  clear hm hL BF
  go_wp2_with fail
  refine (RA _).out.mono ?_
  rintro e w' ⟨rfl, rfl⟩
  have hcR : checkErr R ((0 : Nat) : Int) (R : Int) = 0 := by
    unfold checkErr
    rw [if_neg (by omega)]
  have hc : checkErr (Dsk.fresh R).dur.length ((0 : Nat) : Int) (R : Int) = 0 := by rw [hlen.out]; exact hcR
  have MK := Lib.hid (make_any w2 d F _ 0 R L2.out.disk hc (by simp [Dsk.fresh]))
  have HCR := Lib.hid hcR
  obtain ⟨m1, em, im, wm, lm, fm, _⟩ := inv_make (m := Dsk.fresh R) (frm := 0) (n := R) (by rw [hlen.out]; omega) rfl RN.1 (by rw [hlen.out]; omega) rfl
  rw [em] at MK
  clear hc hcR em
  go_wp2_with fail
  refine MK.out.mono ?_
  intro e w3 hm
  obtain ⟨b, G3, F3, rfl, hL, _, _⟩ := hm.ok rfl L2.out
  have A3 : Hid (At w w3 R 0 b G3 (openS 0 (R - 1) 0 1 0 []) d F3 m1) := ⟨hL, im, fm, by rw [wm]; rfl, rfl, rfl, rfl, rfl, lm.trans hlen.out⟩
  clear hm hL MK L2 hlen im wm lm fm
  go_wp2_with fail
  have ht9 : (t : Int) ≤ 255 := by omega
  go_loopw [10] (fun iv wr => ∃ i s G F m, i ≤ t + 1 ∧ iv = .int .i64 (i : Nat) ∧ At w wr R i b G s d F m ∧ (i = 0 ∨ (Wal.good (txts l) = true ∧ need (txts l) ≤ R - 1))) (fun iv _ => t + 1 - (intOf iv).toNat)
  case atStart => exact ⟨0, _, G3, F3, m1, by omega, rfl, A3.out, .inl rfl⟩
  case round =>
    obtain ⟨i, s, G, F, m, hi, rfl, hat, hor⟩ := hrel
    have HA := Lib.hid hat
    have HO := Lib.hid hor
    clear hat hor A3
    have hi9 : (i : Int) ≤ 256 := by omega
    by_cases hlt : i ≤ t
    · have hlt' : (i : Int) ≤ (t : Int) := by omega
      have SL : Hid (Strs wr A k l) := HL.out.below HA.out.lives.below
      have AP := Lib.hid (append_any wr b d s G F m A k c l HA.out.lives.ld HA.out.inv.ok SL.out (by omega) (fun h0 x hx hm => by
        obtain ⟨g, off, e, hg, _⟩ := HL.out.2.2 h0
        rw [hx] at e
        injection e with e
        subst e
        have := HA.out.lives.new _ hm
        have h9 : g < w.heap.size := hg
        dsimp only at this
        omega) (by rw [HA.out.wait]; omega))
      by_cases hgood : Wal.good (txts l) = true ∧ need (txts l) ≤ R - 1
      · obtain ⟨s2, m2, s3, m3, s4, m4, e2, k2, w2', e3, k3, w3', l3, e4, i4, fr4, r4, f4, y4, n4, fu4, wa4, d4⟩ := Wal.round HA.out.inv HA.out.fuel HA.out.wait (by rw [HA.out.first]; omega) hgood.1 (txts_bytes l) (by rw [HA.out.ring]; exact hgood.2)
        rw [e2, HA.out.first] at AP
        rw [HA.out.first] at e4 f4 y4
        have HG := Lib.hid hgood
        have E3 := Lib.hid e3
        have E4 := Lib.hid e4
        have K2 := Lib.hid k2
        have K3 := Lib.hid k3
        have W2 := Lib.hid w2'
        have W3 := Lib.hid w3'
        have L3 := Lib.hid l3
        have N4 : Hid (s4.ring = R - 1) := r4.trans HA.out.ring
        have N4f : Hid (s4.first = i + 1 + 1 ∧ s4.needs = []) := ⟨f4, n4⟩
        have A4 : Hid (∀ w' G' F', LLives w w' b G' s4 d F' m4 → At w w' R (i + 1) b G' s4 d F' m4) := fun w' G' F' hL => ⟨hL, i4, fu4, wa4, fr4.trans HA.out.frm, r4.trans HA.out.ring, f4, y4, d4.trans HA.out.size⟩
        clear e2 e3 e4 k2 k3 w2' w3' l3 i4 fr4 r4 f4 y4 n4 fu4 wa4 d4 hgood
        have ei : (((i + 1 : Nat) : Int)) = (i : Int) + 1 := by omega
        rw [ei] at AP E4
        go_wp2_with fail
        refine AP.out.mono ?_
        rintro e w5 ⟨rfl, htn⟩
        obtain ⟨G5, F5, hL, _, _⟩ := HA.out.lives.turned htn
        have L5 := Lib.hid hL
        have SY := Lib.hid (sync_any w5 b d s2 G5 F5 m2 hL.ld K2.out W2.out)
        rw [E3.out] at SY
        clear htn hL AP HA
        go_wp2_with fail
        refine SY.out.mono ?_
        rintro e w6 ⟨rfl, htn⟩
        obtain ⟨G6, F6, hL, _, _⟩ := L5.out.turned htn
        have L6 := Lib.hid hL
        have TR := Lib.hid (trim_any w6 b d s3 G6 F6 m3 ((i : Int) + 1) hL.ld K3.out L3.out W3.out)
        rw [E4.out] at TR
        clear htn hL SY L5
        go_wp2_with fail
        refine TR.out.mono ?_
        rintro e w7 ⟨rfl, htn⟩
        obtain ⟨G7, F7, hL, _, _⟩ := L6.out.turned htn
        have L7 := Lib.hid hL
        obtain ⟨vn, hlog, _⟩ := hL.ld.log
        have CO := Lib.hid (room_any w7 b d vn s4 hlog (by rw [N4f.out.2]; decide) (by rw [N4f.out.2]; decide) (by rw [N4.out]; omega))
        have er : s4.room = (R : Int) - 1 := by
          unfold LS.room
          rw [N4.out, N4f.out.2]
          simp
          omega
        rw [er] at CO
        clear htn hL TR L6 hlog er
        go_wp2_with fail
        refine CO.out.mono ?_
        rintro e w8 ⟨rfl, q, hw⟩
        have L8 : Hid (LLives w w8 b G7 s4 d F7 m4) := by rw [hw]; exact L7.out.drewN q
        clear hw CO L7
        go_wp2_with fail
        refine (RA _).out.mono ?_
        rintro e w' ⟨rfl, rfl⟩
        obtain ⟨vn, hlog, _⟩ := L8.out.ld.log
        have FI := Lib.hid (first_any w8 b d vn s4 hlog)
        have ef : ((s4.first : Nat) : Int) = (i : Int) + 1 + 1 := by rw [N4f.out.1]; omega
        rw [ef] at FI
        clear hlog ef
        go_wp2_with fail
        refine FI.out.mono ?_
        rintro e w' ⟨rfl, rfl⟩
        go_wp2_with fail
        go_roundw
        case rel => exact ⟨i + 1, s4, G7, F7, m4, by omega, by go_num, A4.out _ _ _ L8.out, .inr HG.out⟩
        case measure => simp [intOf]; omega
      · obtain rfl : i = 0 := by
          rcases HO.out with h | h
          · exact h
          · exact absurd h hgood
        obtain ⟨z, hz, hz0⟩ : ∃ z : Int, appendO s m (txts l) = (0, z, s, m) ∧ (z = 1 ∨ z = 12) := by
          by_cases hg : Wal.good (txts l) = true
          · refine ⟨12, HA.out.inv.append_full hg ?_, .inr rfl⟩
            unfold LS.room
            have h9 := HA.out.inv.needs
            rw [h9, HA.out.ring]
            have : ¬ need (txts l) ≤ R - 1 := fun h => hgood ⟨hg, h⟩
            simp
            omega
          · exact ⟨1, HA.out.inv.append_bad (by simpa using hg), .inl rfl⟩
        rw [hz] at AP
        clear hz hgood
        go_wp2_with fail
        refine AP.out.mono ?_
        rintro e w5 ⟨rfl, htn⟩
        obtain ⟨G5, F5, hL, _, _⟩ := HA.out.lives.turned htn
        have BW := Lib.hid hL.below
        clear htn hL AP
        rcases hz0 with rfl | rfl
        all_goals
          go_wp2_with fail
          go_ret
          exact ⟨rfl, BW.out⟩
    · obtain rfl : i = t + 1 := by omega
      have hcm : checkErr m.dur.length ((0 : Nat) : Int) (R : Int) = 0 := by rw [HA.out.size]; exact HCR.out
      have FO : Wal.Found 0 (R - 1) (holds m.seen) s.start (t + 1 + 1) (t + 1) [] := by
        have h9 := HA.out.inv.seen
        rw [HA.out.frm, HA.out.ring, HA.out.first, HA.out.synced] at h9
        simpa using h9
      have OP := Lib.hid (open_any wr d F m 0 R s.start (t + 1 + 1) (t + 1) [] HA.out.lives.ld.disk hcm HA.out.inv.alive FO (by omega))
      have LV := Lib.hid HA.out.lives.lives
      clear hcm FO HA HO
      have hlt' : ¬ (((t + 1 : Nat) : Int) ≤ (t : Int)) := by omega
      go_wp2_with fail
      refine (RA _).out.mono ?_
      rintro e w' ⟨rfl, rfl⟩
      go_wp2_with fail
      refine OP.out.mono ?_
      intro e w5 ho
      obtain ⟨b5, v, vs, G5, F5, rfl, hL, _, _, hrows, _⟩ := ho.own LV.out
      obtain ⟨A9, c9, hv⟩ := own_slice hrows.row
      have hv' : v = .slice A9 0 c9 := hv
      clear hv
      subst hv'
      have L5 := Lib.hid hL
      obtain ⟨vn, hlog, _⟩ := hL.ld.log
      have LA := Lib.hid (last_any w5 b5 d vn _ hlog (by show t + 1 + 1 ≤ _; omega) (by show 0 ≤ _; omega))
      have el : (openS 0 (R - 1) s.start (t + 1 + 1) (t + 1) []).last = (t : Int) + 1 := by
        show ((t + 1 + 1 : Nat) : Int) + ((0 : Nat) : Int) - 1 = _
        omega
      rw [el] at LA
      clear ho hL hrows hlog el OP LV
      go_wp2_with fail
      refine LA.out.mono ?_
      rintro e w6 ⟨rfl, q, hw⟩
      have BW : Hid (Below w.heap.size w w6) := by rw [hw]; exact (L5.out.drewN q).below
      clear hw LA L5
      go_wp2_with fail
      go_ret
      exact ⟨rfl, BW.out⟩
set_option maxRecDepth 100000 in
theorem opens {H : Type} {enc : TypeId × Value → H} {W : World} {base : Nat} {args : Array Value} {ds : List (DataW H)} {p : List MemPlace}
    (hval : ∀ (j : Nat) t v, Try.f9.params[j]? = some t → args[j]? = some v → Value.okWide Try.prog W .any base t v)
    (hA : DataW.TrodAll enc Try.prog W 0 (fun _ => true) true Try.f9.params.toList args.toList ds p) (hlt : ∀ x ∈ p, x.block < W.heap.size) (hsz : (DataW.weightsEach Try.prog Try.f9.params.toList ds).all (· ≤ reachBytes) = true) :
    Calls Try.prog 9 args W fun e W' => e = .returned (.bool true) ∧ Below W.heap.size W W' := by
  rw [Try.params9] at hA hval hsz
  obtain ⟨v0, vs0, d0, ds0, p0, q0, hargs, rfl, rfl, h0, r0⟩ := trodAll_cons hA
  obtain ⟨v1, vs1, d1, ds1, p1, q1, rfl, rfl, rfl, h1, r1⟩ := trodAll_cons r0
  obtain ⟨v2, vs2, d2, ds2, p2, q2, rfl, rfl, rfl, h2, r2⟩ := trodAll_cons r1
  obtain ⟨rfl, rfl, rfl⟩ := trodAll_nil r2
  obtain rfl : args = #[v0, v1, v2] := by cases args; simp_all
  obtain ⟨n, rfl, hn⟩ := open_u8 (hval 0 5 v0 rfl rfl) h0
  obtain ⟨A, k, c, l, rfl, hl, hk, _, _, _⟩ := open_batch (hval 1 36 v1 rfl rfl) h1 (small_args hsz (j := 1) rfl rfl)
  obtain ⟨t, rfl, ht⟩ := open_u8 (hval 2 5 v2 rfl rfl) h2
  exact walk n hn A k c l t ht W hl hk

set_option maxRecDepth 100000 in
theorem lifted (os : Os) (started : os.Started) (H : Type) (enc : TypeId × Value → H) :
    ReturnsInHanded {} Try.checked os 9 .any (Rows.walRoundSpec.pre6 enc Try.prog Try.f9 Rows.walRoundRow.domain false) (Rows.walRoundSpec.post enc Try.prog Try.f9 false true false false) := by
  refine returnsInHanded_of_change_sized (C := Try.checked) own started (by kernel_rfl) Try.func9
    (ChangeSpec.witness6 (enc := enc) (C := Try.checked) false ⟨#[], #[.int .u8 0, .slice none 0 0, .int .u8 0], []⟩ 8 (by kernel_rfl) (by kernel_rfl) (by kernel_rfl) (by kernel_rfl)) ?_
  intro W base args ds gs before hval hW _ hsz0 _
  refine law_calls laidOut Try.underlying4 rfl (by rw [Try.params9]; exact of_decide_eq_true (by kernel_rfl)) rfl (fun ds h => by match ds, h with | [_, _, _], _ => rfl) hW ?_
  obtain ⟨rfl, p, hA, hlt⟩ := law_args rfl hW
  have hsz : (DataW.weightsEach Try.prog (Try.f9.params.toList ++ []) (ds ++ [])).all (· ≤ reachBytes) = true := hsz0
  rw [List.append_nil, List.append_nil] at hsz
  exact opens hval hA hlt hsz

theorem over : Rows.walRoundRow.holds Try.pinned (OpenSpec.ofChange Rows.walRoundSpec) :=
  OpenClaim.holds_of_wide 9 Try.f9 rfl rfl rfl rfl rfl rfl rfl ⟨rfl, rfl, rfl, rfl, rfl⟩ rfl rfl rfl rfl rfl (by kernel_rfl) Try.func9 (by kernel_rfl)
    (of_decide_eq_true (by kernel_rfl)) (by unfold Func.isWrapper; first | (rw [if_pos (by decide +kernel)]; kernel_rfl) | (rw [if_neg (by decide +kernel)]; exact ⟨rfl, rfl⟩))
    (fun os started H enc _ => lifted os started H enc)

theorem proved : Rows.WalRoundSaid := over

end Go.Proofs.Ytacpgahbfmpiiaa.walRound
