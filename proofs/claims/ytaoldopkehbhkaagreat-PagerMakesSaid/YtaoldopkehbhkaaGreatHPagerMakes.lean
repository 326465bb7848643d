/-
  P4.1: what can't hold a pager is refused; what was never made, or made with another log, isn't opened; a dead disk is told: the law answers true for every input, and its arguments read behind the call as before. No condition beside the row's own.
-/
import Derived.Test.YtaoldopkehbhkaaGreatMPgO
import Derived.Test.YtaoldopkehbhkaaGreatMDisk
namespace Go.Proofs.YtaoldopkehbhkaaGreat.pagerMakes
open Go.ChangeShapes Go.WideShapes Go.ChangeAt Go.RowKit Pgr Wal

theorem own : ownKnob Tryz.prog.godebug = none := by kernel_rfl
theorem laidOut : laidOutB Tryz.prog = true := by kernel_rfl
theorem fresh_len (M : Nat) : (Dsk.fresh M).dur.length = M := by simp [Dsk.fresh]
theorem fresh_none (M a b c r : Nat) : (sec ((Dsk.fresh M).seen.getD 0 [])).take 56 ≠ told 0 r a b c := by
  have e : (Dsk.fresh M).seen.getD 0 [] = [] := by
    show (List.replicate M ([] : List Nat)).getD 0 [] = []
    rw [List.getD_eq_getElem?_getD, List.getElem?_replicate]
    split <;> rfl
  rw [e]
  exact told_zeros
theorem made_other {M log a b c : Nat} (h2 : 2 ≤ log) (hM : log < M) (h4 : M ≤ 4096) {m : Dsk.DM} (hw : m.wait = []) (hd : m.dur = (List.replicate M []).set 0 (told 0 (log - 1) 0 1 0)) : (sec (m.seen.getD 0 [])).take 56 ≠ told 0 (log - 1 - 1) a b c := by
  have e : m.seen.getD 0 [] = told 0 (log - 1) 0 1 0 := by
    have e1 : m.seen = m.dur := by unfold Dsk.DM.seen; rw [hw]; rfl
    rw [e1, hd, List.getD_eq_getElem?_getD, List.getElem?_set_self (by rw [List.length_replicate]; omega)]
    rfl
  rw [e, sec_short (by rw [told_length]; omega), List.take_append_of_le_length (by rw [told_length]; exact Nat.le_refl _), List.take_of_length_le (by rw [told_length]; exact Nat.le_refl _)]
  exact told_other (by omega) (by omega) (by omega)
set_option maxRecDepth 100000 in
set_option maxHeartbeats 6400000 in
theorem walk (x : Nat) (hx : x < 256) (z : Int) (w : World) :
    Calls Tryz.prog 4 #[.int .u8 (x : Int), .int .i64 z] w fun e w' => e = .returned (.bool true) ∧ Below w.heap.size w w' := by
  have hxi : (x : Int) < 256 := by omega
  have FX := Lib.hid (pfixed_any w)
  obtain ⟨M, hM⟩ : ∃ M, M = clampN (x : Int) := ⟨_, rfl⟩
  have hM1 : 1 ≤ M := by rw [hM]; exact clampN_least _
  have hM4 : M ≤ 4096 := by rw [hM]; exact clampN_most _
  have hMi1 : (1 : Int) ≤ (M : Int) := by omega
  have hMi4 : (M : Int) ≤ 4096 := by omega
  have ND : ∀ X, Hid (Calls Tryz.prog 12 #[.int .i64 (x : Int)] X (NewDisk X (Dsk.fresh M))) := fun X => by
    rw [hM]
    exact Lib.hid (new_any X (x : Int))
  clear hM
  go_enter Tryz.func4, Tryz.ntmps4
  go_wp2_with fail
  refine FX.out.mono ?_
  rintro e w0 ⟨rfl, hb0⟩
  have B0 := Lib.hid hb0
  clear hb0 FX
  go_wp2_with fail
  refine (ND w0).out.mono ?_
  rintro e w1 ⟨d, F, rfl, hD, hb, hF⟩
  have D1 := Lib.hid hD
  have B1 : Hid (Below w.heap.size w w1 ∧ ∀ y ∈ F, w.heap.size ≤ y) := ⟨B0.out.trans (hb.mono B0.out.size), fun y hy => Nat.le_trans B0.out.size (hF y hy)⟩
  have SZ := size_any w1 d F _ hD
  rw [fresh_len] at SZ
  have SZ := Lib.hid SZ
  have PN := Lib.hid (pmake_nil w1 z)
  clear hD hb hF ND B0
  by_cases hbad : z < 2 ∨ (M : Int) ≤ z
  · have OB := Lib.hid (popen_bad w1 d F _ z D1.out (by rw [fresh_len]; exact hbad))
    have MB := Lib.hid (pmake_bad w1 d F _ z D1.out (by rw [fresh_len]; exact hbad))
    by_cases h2 : z < 2
    · have hd : decide (z < 2) = true := decide_eq_true h2
      clear hbad
      go_wp2_with fail
      refine OB.out.mono ?_
      rintro e w' ⟨rfl, rfl⟩
      go_wp2_with fail
      refine MB.out.mono ?_
      rintro e w' ⟨rfl, rfl⟩
      go_wp2_with fail
      refine PN.out.mono ?_
      rintro e w' ⟨rfl, rfl⟩
      go_wp2_with fail
      go_ret
      exact ⟨rfl, B1.out.1⟩
    · have hd : decide (z < 2) = false := decide_eq_false h2
      have h3 : (M : Int) ≤ z := by omega
      have h4 : 2 ≤ z := by omega
      have hd3 : decide ((M : Int) ≤ z) = true := decide_eq_true h3
      clear hbad h2
      go_wp2_with fail
      refine SZ.out.mono ?_
      rintro e w' ⟨rfl, rfl⟩
      go_wp2_with fail
      refine OB.out.mono ?_
      rintro e w' ⟨rfl, rfl⟩
      go_wp2_with fail
      refine MB.out.mono ?_
      rintro e w' ⟨rfl, rfl⟩
      go_wp2_with fail
      refine PN.out.mono ?_
      rintro e w' ⟨rfl, rfl⟩
      go_wp2_with fail
      go_ret
      exact ⟨rfl, B1.out.1⟩
  · obtain ⟨k, rfl⟩ : ∃ k : Nat, z = (k : Int) := ⟨z.toNat, by omega⟩
    have hk2 : 2 ≤ k := by omega
    have hkM : k < M := by omega
    have hki : (2 : Int) ≤ (k : Int) := by omega
    have hkj : (k : Int) < (M : Int) := by omega
    have hd : decide ((k : Int) < 2) = false := decide_eq_false (by omega)
    have hd3 : decide (M ≤ k) = false := decide_eq_false (by omega)
    have ON := Lib.hid (popen_none w1 d F _ k 11 D1.out hk2 (by rw [fresh_len]; exact hkM) (.inr ⟨rfl, rfl, fun a b c => fresh_none M a b c _⟩))
    clear hbad PN
    go_wp2_with fail
    refine SZ.out.mono ?_
    rintro e w' ⟨rfl, rfl⟩
    go_wp2_with fail
    refine ON.out.mono ?_
    rintro e w2 ⟨rfl, F2, hD2, hO2, hF2⟩
    have B2 : Hid (Below w.heap.size w w2 ∧ ∀ y ∈ F2, w.heap.size ≤ y) := ⟨B1.out.1.trans (hO2.below B1.out.1.size B1.out.2), fun y hy => by
      rcases hF2 y hy with h1 | h1
      · exact B1.out.2 y h1
      · exact Nat.le_trans B1.out.1.size h1⟩
    have MK := Lib.hid (pmake_fresh w2 d F2 M k hD2 hk2 hkM)
    clear hD2 hO2 hF2 ON SZ D1
    go_wp2_with fail
    refine MK.out.mono ?_
    rintro e w3 ⟨P, rfl, hP⟩
    obtain ⟨_, m1, m2, m3, m4⟩ := makeO_fresh M k ⟨hk2, hkM⟩
    rw [← hP.m_] at m1 m2 m3 m4
    have hlen : P.m.dur.length = M := by rw [m4]; simp
    have hDk : DiskAt w3 d P.F P.m := by have := hP.pag.log.disk; rw [hP.d_] at this; exact this
    have B3 : Hid (Below w.heap.size w w3 ∧ ∀ y ∈ P.F, w.heap.size ≤ y) := ⟨B2.out.1.trans (hP.only.below B2.out.1.size B2.out.2), fun y hy => by
      rcases hP.foot y hy with h1 | h1
      · exact B2.out.2 y h1
      · exact Nat.le_trans B2.out.1.size h1⟩
    have BL := blocks_any w3 P _ hP.pag
    rw [hP.n] at BL
    have BL := Lib.hid BL
    have DK := Lib.hid hDk
    have MM : Hid (P.m.dead = false ∧ P.m.wait = [] ∧ P.m.dur = (List.replicate M []).set 0 (told 0 (k - 1) 0 1 0) ∧ P.m.dur.length = M) := ⟨m1, m3, m4, hlen⟩
    have esub : (((M - k : Nat) : Int)) = (M : Int) - (k : Int) := by omega
    have nn : (((M : Int) - (k : Int)) != ((M : Int) - (k : Int))) = false := by simp
    have e1 : IntKind.i64.wrap ((M : Int) - (k : Int)) = (M : Int) - (k : Int) := by rw [IntKind.wrap_i64]; omega
    rw [esub] at BL
    clear hP m1 m2 m3 m4 hlen hDk esub MK B2
    go_wp2_with fail
    refine BL.out.mono ?_
    rintro e w4 ⟨rfl, q, hw4⟩
    have DK4 : Hid (DiskAt w4 d P.F P.m) := by rw [hw4]; exact DK.out.drewN q
    have B4 : Hid (Below w.heap.size w w4 ∧ ∀ y ∈ P.F, w.heap.size ≤ y) := ⟨by rw [hw4]; exact B3.out.1.trans ((punder_drewN w3 q).mono B3.out.1.size), B3.out.2⟩
    have SZ4 := size_any w4 d P.F _ DK4.out
    rw [MM.out.2.2.2] at SZ4
    have SZ4 := Lib.hid SZ4
    clear hw4 BL DK B3
    go_wp2_with fail
    refine SZ4.out.mono ?_
    rintro e w' ⟨rfl, rfl⟩
    clear SZ4
    by_cases h2 : 2 < k
    · have hd5 : decide ((2 : Int) < (k : Int)) = true := decide_eq_true (by omega)
      have e2 : IntKind.i64.wrap ((k : Int) - 1) = (k : Int) - 1 := by rw [IntKind.wrap_i64]; omega
      have ON2 := popen_none w4 d P.F P.m (k - 1) 11 DK4.out (by omega) (by rw [MM.out.2.2.2]; omega) (.inr ⟨rfl, MM.out.1, fun a b c => made_other hk2 hkM hM4 MM.out.2.1 MM.out.2.2.1⟩)
      rw [show (((k - 1 : Nat) : Int)) = (k : Int) - 1 by omega] at ON2
      have ON2 := Lib.hid ON2
      clear DK4 h2
      go_wp2_with fail
      refine ON2.out.mono ?_
      rintro e w5 ⟨rfl, F5, hD5, hO5, hF5⟩
      have D5 := Lib.hid hD5
      have B5 : Hid (Below w.heap.size w w5 ∧ ∀ y ∈ F5, w.heap.size ≤ y) := ⟨B4.out.1.trans (hO5.below B4.out.1.size B4.out.2), fun y hy => by
        rcases hF5 y hy with h1 | h1
        · exact B4.out.2 y h1
        · exact Nat.le_trans B4.out.1.size h1⟩
      clear hD5 hO5 hF5 ON2 B4 nn e1 e2
      -- the disk dies
      have FU := Lib.hid (fuel_any w5 d F5 P.m 0 (by omega) D5.out)
      clear D5
      go_wp2_with fail
      refine FU.out.mono ?_
      rintro e w6 ⟨rfl, F6, hD6, hO6, hF6⟩
      have B6 : Hid (Below w.heap.size w w6 ∧ ∀ y ∈ F6, w.heap.size ≤ y) := ⟨B5.out.1.trans (hO6.below B5.out.1.size B5.out.2), fun y hy => by
        rcases hF6 y hy with h1 | h1
        · exact B5.out.2 y h1
        · exact Nat.le_trans B5.out.1.size h1⟩
      have FL := flush_any w6 d F6 _ hD6 (by show P.m.wait.length ≤ _; rw [MM.out.2.1]; exact Nat.zero_le _)
      have ef : (P.m.setFuel 0).flushErr = 10 := by unfold Dsk.DM.flushErr Dsk.DM.setFuel; dsimp only; rw [MM.out.1]; rfl
      have eg : (P.m.setFuel 0).flush = { P.m.setFuel 0 with dead := true } := by unfold Dsk.DM.flush Dsk.DM.setFuel; dsimp only; rw [MM.out.1]; rfl
      rw [ef, eg] at FL
      have FL := Lib.hid FL
      clear hD6 hO6 hF6 ef eg FU B5
      go_wp2_with fail
      refine FL.out.mono ?_
      rintro e w7 ⟨rfl, F7, hD7, hO7, hF7⟩
      have B7 : Hid (Below w.heap.size w w7 ∧ ∀ y ∈ F7, w.heap.size ≤ y) := ⟨B6.out.1.trans (hO7.below B6.out.1.size B6.out.2), fun y hy => by
        rcases hF7 y hy with h1 | h1
        · exact B6.out.2 y h1
        · exact Nat.le_trans B6.out.1.size h1⟩
      have ON3 := Lib.hid (popen_none w7 d F7 _ k 10 hD7 hk2 (by show k < P.m.dur.length; rw [MM.out.2.2.2]; exact hkM) (.inl ⟨rfl, rfl⟩))
      clear hD7 hO7 hF7 FL B6
      go_wp2_with fail
      refine ON3.out.mono ?_
      rintro e w8 ⟨rfl, F8, hD8, hO8, hF8⟩
      have B8 : Hid (Below w.heap.size w w8 ∧ ∀ y ∈ F8, w.heap.size ≤ y) := ⟨B7.out.1.trans (hO8.below B7.out.1.size B7.out.2), fun y hy => by
        rcases hF8 y hy with h1 | h1
        · exact B7.out.2 y h1
        · exact Nat.le_trans B7.out.1.size h1⟩
      have MK3 := Lib.hid (pmake_dead w8 d F8 _ k hD8 hk2 (by show k < P.m.dur.length; rw [MM.out.2.2.2]; exact hkM) rfl (by show P.m.wait.length ≤ _; rw [MM.out.2.1]; exact Nat.zero_le _))
      clear hD8 hO8 hF8 ON3 B7
      go_wp2_with fail
      refine MK3.out.mono ?_
      rintro e w9 ⟨rfl, F9, hD9, hO9, hF9⟩
      have B9 : Hid (Below w.heap.size w w9) := B8.out.1.trans (hO9.below B8.out.1.size B8.out.2)
      clear hD9 hO9 hF9 MK3 B8
      go_wp2_with fail
      go_ret
      exact ⟨rfl, B9.out⟩
    · have hd5 : decide ((2 : Int) < (k : Int)) = false := decide_eq_false (by omega)
      have D5 := DK4
      have B5 := B4
      clear DK4 B4
      -- the disk dies
      have FU := Lib.hid (fuel_any w4 d P.F P.m 0 (by omega) D5.out)
      clear D5
      go_wp2_with fail
      refine FU.out.mono ?_
      rintro e w6 ⟨rfl, F6, hD6, hO6, hF6⟩
      have B6 : Hid (Below w.heap.size w w6 ∧ ∀ y ∈ F6, w.heap.size ≤ y) := ⟨B5.out.1.trans (hO6.below B5.out.1.size B5.out.2), fun y hy => by
        rcases hF6 y hy with h1 | h1
        · exact B5.out.2 y h1
        · exact Nat.le_trans B5.out.1.size h1⟩
      have FL := flush_any w6 d F6 _ hD6 (by show P.m.wait.length ≤ _; rw [MM.out.2.1]; exact Nat.zero_le _)
      have ef : (P.m.setFuel 0).flushErr = 10 := by unfold Dsk.DM.flushErr Dsk.DM.setFuel; dsimp only; rw [MM.out.1]; rfl
      have eg : (P.m.setFuel 0).flush = { P.m.setFuel 0 with dead := true } := by unfold Dsk.DM.flush Dsk.DM.setFuel; dsimp only; rw [MM.out.1]; rfl
      rw [ef, eg] at FL
      have FL := Lib.hid FL
      clear hD6 hO6 hF6 ef eg FU B5
      go_wp2_with fail
      refine FL.out.mono ?_
      rintro e w7 ⟨rfl, F7, hD7, hO7, hF7⟩
      have B7 : Hid (Below w.heap.size w w7 ∧ ∀ y ∈ F7, w.heap.size ≤ y) := ⟨B6.out.1.trans (hO7.below B6.out.1.size B6.out.2), fun y hy => by
        rcases hF7 y hy with h1 | h1
        · exact B6.out.2 y h1
        · exact Nat.le_trans B6.out.1.size h1⟩
      have ON3 := Lib.hid (popen_none w7 d F7 _ k 10 hD7 hk2 (by show k < P.m.dur.length; rw [MM.out.2.2.2]; exact hkM) (.inl ⟨rfl, rfl⟩))
      clear hD7 hO7 hF7 FL B6
      go_wp2_with fail
      refine ON3.out.mono ?_
      rintro e w8 ⟨rfl, F8, hD8, hO8, hF8⟩
      have B8 : Hid (Below w.heap.size w w8 ∧ ∀ y ∈ F8, w.heap.size ≤ y) := ⟨B7.out.1.trans (hO8.below B7.out.1.size B7.out.2), fun y hy => by
        rcases hF8 y hy with h1 | h1
        · exact B7.out.2 y h1
        · exact Nat.le_trans B7.out.1.size h1⟩
      have MK3 := Lib.hid (pmake_dead w8 d F8 _ k hD8 hk2 (by show k < P.m.dur.length; rw [MM.out.2.2.2]; exact hkM) rfl (by show P.m.wait.length ≤ _; rw [MM.out.2.1]; exact Nat.zero_le _))
      clear hD8 hO8 hF8 ON3 B7
      go_wp2_with fail
      refine MK3.out.mono ?_
      rintro e w9 ⟨rfl, F9, hD9, hO9, hF9⟩
      have B9 : Hid (Below w.heap.size w w9) := B8.out.1.trans (hO9.below B8.out.1.size B8.out.2)
      clear hD9 hO9 hF9 MK3 B8
      go_wp2_with fail
      go_ret
      exact ⟨rfl, B9.out⟩
set_option maxRecDepth 100000 in
theorem opens {H : Type} {enc : TypeId × Value → H} {W : World} {base : Nat} {args : Array Value} {ds : List (DataW H)} {p : List MemPlace}
    (hval : ∀ (j : Nat) t v, Tryz.f4.params[j]? = some t → args[j]? = some v → Value.okWide Tryz.prog W .any base t v)
    (hA : DataW.TrodAll enc Tryz.prog W 0 (fun _ => true) true Tryz.f4.params.toList args.toList ds p) (hlt : ∀ x ∈ p, x.block < W.heap.size) (hsz : (DataW.weightsEach Tryz.prog Tryz.f4.params.toList ds).all (· ≤ reachBytes) = true) :
    Calls Tryz.prog 4 args W fun e W' => e = .returned (.bool true) ∧ Below W.heap.size W W' := by
  rw [Tryz.params4] at hA hval hsz
  obtain ⟨v0, vs0, d0, ds0, p0, q0, hargs, rfl, rfl, h0, r0⟩ := trodAll_cons hA
  obtain ⟨v1, vs1, d1, ds1, p1, q1, rfl, rfl, rfl, h1, r1⟩ := trodAll_cons r0
  obtain ⟨rfl, rfl, rfl⟩ := trodAll_nil r1
  obtain rfl : args = #[v0, v1] := by cases args; simp_all
  obtain ⟨x, rfl, hx⟩ := open_u8 (hval 0 5 v0 rfl rfl) h0
  obtain ⟨z, rfl, _, _⟩ := open_i64 (hval 1 3 v1 rfl rfl) h1
  exact walk x hx z W

set_option maxRecDepth 100000 in
theorem lifted (os : Os) (started : os.Started) (H : Type) (enc : TypeId × Value → H) :
    ReturnsInHanded {} Tryz.checked os 4 .any (Rows.pagerMakesSpec.pre6 enc Tryz.prog Tryz.f4 Rows.pagerMakesRow.domain false) (Rows.pagerMakesSpec.post enc Tryz.prog Tryz.f4 false true false false) := by
  refine returnsInHanded_of_change_sized (C := Tryz.checked) own started (by kernel_rfl) Tryz.func4
    (ChangeSpec.witness6 (enc := enc) (C := Tryz.checked) false ⟨#[], #[.int .u8 0, .int .i64 0], []⟩ 8 (by kernel_rfl) (by kernel_rfl) (by kernel_rfl) (by kernel_rfl)) ?_
  intro W base args ds gs before hval hW _ hsz0 _
  refine law_calls laidOut Tryz.underlying4 rfl (by rw [Tryz.params4]; exact of_decide_eq_true (by kernel_rfl)) rfl (fun ds h => by match ds, h with | [_, _], _ => rfl) hW ?_
  obtain ⟨rfl, p, hA, hlt⟩ := law_args rfl hW
  have hsz : (DataW.weightsEach Tryz.prog (Tryz.f4.params.toList ++ []) (ds ++ [])).all (· ≤ reachBytes) = true := hsz0
  rw [List.append_nil, List.append_nil] at hsz
  exact opens hval hA hlt hsz

theorem over : Rows.pagerMakesRow.holds Tryz.pinned (OpenSpec.ofChange Rows.pagerMakesSpec) :=
  OpenClaim.holds_of_wide 4 Tryz.f4 rfl rfl rfl rfl rfl rfl rfl ⟨rfl, rfl, rfl, rfl, rfl⟩ rfl rfl rfl rfl rfl (by kernel_rfl) Tryz.func4 (by kernel_rfl)
    (of_decide_eq_true (by kernel_rfl)) (by unfold Func.isWrapper; first | (rw [if_pos (by decide +kernel)]; kernel_rfl) | (rw [if_neg (by decide +kernel)]; exact ⟨rfl, rfl⟩))
    (fun os started H enc _ => lifted os started H enc)

theorem proved : Rows.PagerMakesSaid := over

end Go.Proofs.YtaoldopkehbhkaaGreat.pagerMakes
