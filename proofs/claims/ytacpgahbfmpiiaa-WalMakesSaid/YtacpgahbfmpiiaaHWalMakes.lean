/-
  P3.2: what can be no region is refused; what was never made, or made elsewhere, isn't opened: the law answers true for every input, and its arguments read behind the call as before. No condition beside the row's own.
-/
import Derived.Test.YtacpgahbfmpiiaaMTxt
import Derived.Deep.CutRange
import Derived.Deep.DeepCutAuto
namespace Go.Proofs.Ytacpgahbfmpiiaa.walMakes
open Go.ChangeShapes Go.WideShapes Go.ChangeAt Go.RowKit Wal

theorem own : ownKnob Try.prog.godebug = none := by kernel_rfl
theorem laidOut : laidOutB Try.prog = true := by kernel_rfl

theorem bad_iff (S : Nat) (x n : Int) : checkErr S x n = 1 ∨ checkErr S x n = 0 := by
  unfold checkErr
  split
  · exact .inl rfl
  · exact .inr rfl
theorem fresh_zero (S i : Nat) : (Dsk.fresh S).seen.getD i [] = [] := by
  show (List.replicate S []).getD i [] = []
  rw [List.getD_eq_getElem?_getD, List.getElem?_replicate]
  split <;> rfl

set_option maxRecDepth 100000 in
set_option maxHeartbeats 3200000 in
theorem walk (s : Nat) (hs : s < 256) (x n : Int) (hx : -9223372036854775808 ≤ x ∧ x ≤ 9223372036854775807) (hn : -9223372036854775808 ≤ n ∧ n ≤ 9223372036854775807) (w : World) :
    Calls Try.prog 4 #[.int .u8 (s : Int), .int .i64 x, .int .i64 n] w fun e w' => e = .returned (.bool true) ∧ Below w.heap.size w w' := by
  go_enter Try.func4, Try.ntmps4
  go_wp2_with fail
  refine (fixed_any _).mono ?_
  rintro e w1 ⟨rfl, hbel⟩
  have BF := Lib.hid hbel
  clear hbel
  go_wp2_with fail
  refine (new_any _ _).mono ?_
  intro e w2 hm
  obtain ⟨d, F, rfl, hL⟩ := hm.lives
  obtain ⟨S, hS⟩ : ∃ S, S = clampN (s : Int) := ⟨_, rfl⟩
  have hS1 : 1 ≤ S := by rw [hS]; exact clampN_least _
  have hS2 : S ≤ 4096 := by rw [hS]; exact clampN_most _
  rw [← hS] at hL
  have L2 : Hid (Lives w w2 d F (Dsk.fresh S)) := ⟨hL.disk, BF.out.trans (hL.below.mono BF.out.size), fun x hx => Nat.le_trans BF.out.size (hL.new x hx)⟩
  have hlen : Hid ((Dsk.fresh S).dur.length = S) := by show _ = _; simp [Dsk.fresh]
  have SZ := Lib.hid (size_any w2 d F _ L2.out.disk)
  rw [hlen.out] at SZ
  clear hm hL hS BF
  go_wp2_with fail
  refine SZ.out.mono ?_
  rintro e w' ⟨rfl, rfl⟩
  clear SZ
  go_upto_region 5 with fail
  obtain ⟨bb, hbb⟩ : ∃ bb, bb = decide (checkErr S x n = 1) := ⟨_, rfl⟩
  have EB := Lib.hid hbb
  clear hbb
  have hS9 : (S : Int) ≤ 4096 := by omega
  go_cut [9] (fun v wc => v = .bool bb ∧ wc = w2)
  case first =>
    have HX : Hid (bb = true ↔ (x < 0 ∨ n < 2 ∨ (S : Int) - x < n)) := by
      show _ ↔ _
      rw [EB.out]
      unfold checkErr
      by_cases hq : x < 0 ∨ n < 2 ∨ (S : Int) - x < n
      · rw [if_pos hq]
        exact ⟨fun _ => hq, fun _ => rfl⟩
      · rw [if_neg hq]
        exact ⟨fun h => absurd h (by decide), fun h => absurd h hq⟩
    obtain ⟨hn0, hn1⟩ := hn
    by_cases h1 : x < 0
    · obtain rfl : bb = true := HX.out.2 (.inl h1)
      clear HX EB
      go_wp2_with fail
      go_meet
      case rel => exact ⟨rfl, rfl⟩
    · by_cases h2 : n < 2
      · obtain rfl : bb = true := HX.out.2 (.inr (.inl h2))
        clear HX EB
        go_wp2_with fail
        go_meet
        case rel => exact ⟨rfl, rfl⟩
      · by_cases h3 : (S : Int) < n
        · obtain rfl : bb = true := HX.out.2 (.inr (.inr (by omega)))
          clear HX EB
          go_wp2_with fail
          go_meet
          case rel => exact ⟨rfl, rfl⟩
        · by_cases h4 : (S : Int) - n < x
          · obtain rfl : bb = true := HX.out.2 (.inr (.inr (by omega)))
            clear HX EB
            go_wp2_with fail
            go_meet
            case rel => exact ⟨rfl, rfl⟩
          · obtain rfl : bb = false := by
              rw [Bool.eq_false_iff]
              intro e
              rcases HX.out.1 e with h | h | h <;> omega
            clear HX EB
            go_wp2_with fail
            go_meet
            case rel => exact ⟨rfl, rfl⟩
  case rest =>
    obtain ⟨rfl, rfl⟩ := hcut
    rcases bad_iff S x n with hc | hc
    · obtain rfl : bb = true := by rw [EB.out, hc]; rfl
      rw [← hlen.out] at hc
      have O1 := Lib.hid (open_bad wc d F _ x n L2.out.disk hx.2 hc)
      have M1 := Lib.hid (make_bad wc d F _ x n L2.out.disk hx.2 hc)
      have BW := Lib.hid L2.out.below
      clear EB hc hlen L2
      go_wp2_with fail
      refine O1.out.mono ?_
      rintro e w' ⟨rfl, rfl⟩
      go_wp2_with fail
      refine M1.out.mono ?_
      rintro e w' ⟨rfl, rfl⟩
      go_wp2_with fail
      refine O1.out.mono ?_
      rintro e w' ⟨rfl, rfl⟩
      go_wp2_with fail
      go_ret
      exact ⟨rfl, BW.out⟩
    · obtain rfl : bb = false := by rw [EB.out, hc]; rfl
      obtain ⟨f, hf⟩ : ∃ f : Nat, x = (f : Int) := by
        unfold checkErr at hc
        split at hc
        · cases hc
        · exact ⟨x.toNat, by omega⟩
      obtain ⟨N, hN⟩ : ∃ N : Nat, n = (N : Int) := by
        unfold checkErr at hc
        split at hc
        · cases hc
        · exact ⟨n.toNat, by omega⟩
      subst hf hN
      obtain ⟨c1, c2⟩ := check_ok hc
      rw [← hlen.out] at hc
      have HC := Lib.hid hc
      have CK := Lib.hid (And.intro c1 c2)
      clear EB hc hx hn
      have O1 := Lib.hid (open_none wc d F _ f N 11 L2.out.disk HC.out (.inr ⟨rfl, rfl, fun a b c => by rw [fresh_zero]; exact told_zeros⟩))
      go_wp2_with fail
      refine O1.out.mono ?_
      rintro e w3 ⟨rfl, ht⟩
      obtain ⟨F3, hL, _, _⟩ := L2.out.turned ht
      have L3 := Lib.hid hL
      clear ht hL O1 L2
      obtain ⟨m1, em, im, wm, lm, fm, dm⟩ := inv_make (m := Dsk.fresh S) (frm := f) (n := N) (by rw [hlen.out]; omega) rfl CK.out.1 (by rw [hlen.out]; exact CK.out.2) rfl
      have EM := Lib.hid em
      have IM := Lib.hid im
      have LM : Hid (m1.dur.length = S) := lm.trans hlen.out
      have DM : Hid (sec (m1.seen.getD f []) = sec (told f (N - 1) 0 1 0)) := im.seen.told
      have FM : Hid (Wal.Found f (N - 1) (holds m1.seen) 0 1 0 []) := im.seen
      have WM : Hid (m1.wait.length = 0) := by show _ = _; rw [wm]; rfl
      clear em im wm lm fm dm
      have MK := Lib.hid (make_any w3 d F3 _ f N L3.out.disk HC.out (by simp [Dsk.fresh]))
      rw [EM.out] at MK
      go_wp2_with fail
      refine MK.out.mono ?_
      intro e w4 hm
      obtain ⟨b4, G4, F4, rfl, hL, _, _⟩ := hm.ok rfl L3.out
      have L4 : Hid (Lives w w4 d F4 m1) := hL.lives
      clear hm hL MK L3
      have hcm : checkErr m1.dur.length (f : Int) (N : Int) = 0 := by rw [LM.out, ← hlen.out]; exact HC.out
      have OP := Lib.hid (open_any w4 d F4 m1 f N 0 1 0 [] L4.out.disk hcm IM.out.alive FM.out (by omega))
      have HCM := Lib.hid hcm
      clear hcm
      go_wp2_with fail
      refine OP.out.mono ?_
      rintro e w5 ⟨b5, v, vs, G5, F5, rfl, hld, honly, hG, hF, hrows, hfar⟩
      obtain ⟨A, c, hv⟩ := own_slice hrows.row
      have hv' : v = .slice A 0 c := hv
      clear hv
      subst hv'
      have L5 : Hid (LLives w w5 b5 G5 (openS f (N - 1) 0 1 0 []) d F5 m1) := ⟨hld, L4.out.below.trans (honly.below L4.out.below.size L4.out.new), fun x hx => by
        rcases List.mem_append.1 hx with hx | hx
        · exact Nat.le_trans L4.out.below.size (hG x hx)
        · rcases hF x hx with hx | hx
          · exact L4.out.new x hx
          · exact Nat.le_trans L4.out.below.size hx⟩
      clear OP hld honly hG hF hrows hfar L4
      obtain ⟨vn, hlog, _⟩ := L5.out.ld.log
      have FI := fun k => Lib.hid (first_any (w5.drewN k) b5 d vn _ (hlog.only ((Only.refl [] w5).drewN k) (fun _ _ hx => by cases hx)))
      have LA := Lib.hid (last_any w5 b5 d vn _ hlog (by show 1 ≤ _; omega) (by show 0 ≤ _; omega))
      have ef : (openS f (N - 1) 0 1 0 []).first = 1 := rfl
      have el : (openS f (N - 1) 0 1 0 []).last = 0 := rfl
      simp only [ef] at FI
      rw [el] at LA
      clear hlog ef el
      go_wp2_with fail
      refine LA.out.mono ?_
      rintro e w6 ⟨rfl, k, hw⟩
      subst hw
      go_wp2_with fail
      refine (FI k).out.mono ?_
      rintro e w' ⟨rfl, rfl⟩
      have L6 : Hid (Lives w (w5.drewN k) d F5 m1) := (L5.out.drewN k).lives
      clear FI LA L5
      generalize w5.drewN k = w6 at *
      have hN4 : (N : Int) ≤ 4096 := by have := CK.out; omega
      by_cases h2 : 2 < N
      · have ec : checkErr m1.dur.length (f : Int) ((N - 1 : Nat) : Int) = 0 := by
          have h3 := CK.out
          have h4 := LM.out
          unfold checkErr
          rw [if_neg (by omega)]
        have O7 := Lib.hid (open_none w6 d F5 m1 f (N - 1) 11 L6.out.disk ec (.inr ⟨rfl, IM.out.alive, fun a b c => by
          rw [DM.out, (told_fields (L := sec (told f (N - 1) 0 1 0)) rfl (by omega) (by omega) (by omega)).1]
          exact told_other (by omega) (by omega) (by omega)⟩))
        have eN : (N : Int) - 1 = ((N - 1 : Nat) : Int) := by omega
        have h2' : (2 : Int) < (N : Int) := by omega
        clear h2 ec
        go_wp2_with fail
        refine O7.out.mono ?_
        rintro e w7 ⟨rfl, ht⟩
        obtain ⟨F7, hL, _, _⟩ := L6.out.turned ht
        have BW := Lib.hid hL.below
        clear ht hL O7 L6
        go_wp2_with fail
        go_ret
        exact ⟨rfl, BW.out⟩
      · have h2' : ¬ (2 : Int) < (N : Int) := by omega
        clear h2
        have FU := Lib.hid (fuel_any w6 d F5 m1 0 (by omega) L6.out.disk)
        go_wp2_with fail
        refine FU.out.mono ?_
        rintro e w7 ⟨rfl, ht⟩
        obtain ⟨F7, hL, _, _⟩ := L6.out.turned ht
        have L7 := Lib.hid hL
        clear ht hL FU L6
        have hw0 : (m1.setFuel 0).wait.length ≤ 5800000000000 := by
          show m1.wait.length ≤ _
          rw [WM.out]
          omega
        have FL := Lib.hid (flush_any w7 d F7 _ L7.out.disk hw0)
        obtain ⟨m2, hm2⟩ : ∃ m2, m2 = (m1.setFuel 0).flush := ⟨_, rfl⟩
        have hfl : (m1.setFuel 0).flush = { m1.setFuel 0 with dead := true } := by
          unfold Dsk.DM.flush
          rw [if_neg (by show ¬ m1.dead = true; rw [IM.out.alive]; simp), if_pos (show (m1.setFuel 0).fuel = 0 from rfl)]
        have hfe : (m1.setFuel 0).flushErr = 10 := by
          unfold Dsk.DM.flushErr
          rw [if_neg (by show ¬ m1.dead = true; rw [IM.out.alive]; simp), if_pos (show (m1.setFuel 0).fuel = 0 from rfl)]
        have D2 : Hid (m2.dead = true ∧ m2.dur.length = m1.dur.length ∧ m2.wait.length = 0) := by rw [hm2, hfl]; exact ⟨rfl, rfl, WM.out⟩
        rw [hfe, ← hm2] at FL
        clear hfl hfe hm2 hw0
        go_wp2_with fail
        refine FL.out.mono ?_
        rintro e w8 ⟨rfl, ht⟩
        obtain ⟨F8, hL, _, _⟩ := L7.out.turned ht
        have L8 := Lib.hid hL
        clear ht hL FL L7
        have hc2 : checkErr m2.dur.length (f : Int) (N : Int) = 0 := by rw [D2.out.2.1]; exact HCM.out
        have HC2 := Lib.hid hc2
        have O8 := Lib.hid (open_none w8 d F8 m2 f N 10 L8.out.disk hc2 (.inl ⟨rfl, D2.out.1⟩))
        clear hc2
        go_wp2_with fail
        refine O8.out.mono ?_
        rintro e w9 ⟨rfl, ht⟩
        obtain ⟨F9, hL, _, _⟩ := L8.out.turned ht
        have L9 := Lib.hid hL
        clear ht hL O8 L8
        have M9 := Lib.hid (make_any w9 d F9 m2 f N L9.out.disk HC2.out (by rw [D2.out.2.2]; omega))
        go_wp2_with fail
        refine M9.out.mono ?_
        intro e w10 hm
        have hz := make_dead (frm := f) (n := N) D2.out.1
        obtain ⟨he, ht⟩ := hm.2 (by rw [hz]; decide)
        rw [hz] at he
        subst he
        obtain ⟨F10, hL, _, _⟩ := L9.out.turned ht
        have BW := Lib.hid hL.below
        clear ht hL M9 L9 hm hz
        go_wp2_with fail
        refine (make_nil w10 _ _).mono ?_
        rintro e w' ⟨rfl, rfl⟩
        go_wp2_with fail
        go_ret
        exact ⟨rfl, BW.out⟩
set_option maxRecDepth 100000 in
theorem opens {H : Type} {enc : TypeId × Value → H} {W : World} {base : Nat} {args : Array Value} {ds : List (DataW H)} {p : List MemPlace}
    (hval : ∀ (j : Nat) t v, Try.f4.params[j]? = some t → args[j]? = some v → Value.okWide Try.prog W .any base t v)
    (hA : DataW.TrodAll enc Try.prog W 0 (fun _ => true) true Try.f4.params.toList args.toList ds p) (hlt : ∀ x ∈ p, x.block < W.heap.size) (hsz : (DataW.weightsEach Try.prog Try.f4.params.toList ds).all (· ≤ reachBytes) = true) :
    Calls Try.prog 4 args W fun e W' => e = .returned (.bool true) ∧ Below W.heap.size W W' := by
  rw [Try.params4] at hA hval hsz
  obtain ⟨v0, vs0, d0, ds0, p0, q0, hargs, rfl, rfl, h0, r0⟩ := trodAll_cons hA
  obtain ⟨v1, vs1, d1, ds1, p1, q1, rfl, rfl, rfl, h1, r1⟩ := trodAll_cons r0
  obtain ⟨v2, vs2, d2, ds2, p2, q2, rfl, rfl, rfl, h2, r2⟩ := trodAll_cons r1
  obtain ⟨rfl, rfl, rfl⟩ := trodAll_nil r2
  obtain rfl : args = #[v0, v1, v2] := by cases args; simp_all
  obtain ⟨s, rfl, hs⟩ := open_u8 (hval 0 5 v0 rfl rfl) h0
  obtain ⟨x, rfl, hx⟩ := open_i64 (hval 1 3 v1 rfl rfl) h1
  obtain ⟨n, rfl, hn⟩ := open_i64 (hval 2 3 v2 rfl rfl) h2
  exact walk s hs x n hx hn W

set_option maxRecDepth 100000 in
theorem lifted (os : Os) (started : os.Started) (H : Type) (enc : TypeId × Value → H) :
    ReturnsInHanded {} Try.checked os 4 .any (Rows.walMakesSpec.pre6 enc Try.prog Try.f4 Rows.walMakesRow.domain false) (Rows.walMakesSpec.post enc Try.prog Try.f4 false true false false) := by
  refine returnsInHanded_of_change_sized (C := Try.checked) own started (by kernel_rfl) Try.func4
    (ChangeSpec.witness6 (enc := enc) (C := Try.checked) false ⟨#[], #[.int .u8 0, .int .i64 0, .int .i64 0], []⟩ 8 (by kernel_rfl) (by kernel_rfl) (by kernel_rfl) (by kernel_rfl)) ?_
  intro W base args ds gs before hval hW _ hsz0 _
  refine law_calls laidOut Try.underlying4 rfl (by rw [Try.params4]; exact of_decide_eq_true (by kernel_rfl)) rfl (fun ds h => by match ds, h with | [_, _, _], _ => rfl) hW ?_
  obtain ⟨rfl, p, hA, hlt⟩ := law_args rfl hW
  have hsz : (DataW.weightsEach Try.prog (Try.f4.params.toList ++ []) (ds ++ [])).all (· ≤ reachBytes) = true := hsz0
  rw [List.append_nil, List.append_nil] at hsz
  exact opens hval hA hlt hsz

theorem over : Rows.walMakesRow.holds Try.pinned (OpenSpec.ofChange Rows.walMakesSpec) :=
  OpenClaim.holds_of_wide 4 Try.f4 rfl rfl rfl rfl rfl rfl rfl ⟨rfl, rfl, rfl, rfl, rfl⟩ rfl rfl rfl rfl rfl (by kernel_rfl) Try.func4 (by kernel_rfl)
    (of_decide_eq_true (by kernel_rfl)) (by unfold Func.isWrapper; first | (rw [if_pos (by decide +kernel)]; kernel_rfl) | (rw [if_neg (by decide +kernel)]; exact ⟨rfl, rfl⟩))
    (fun os started H enc _ => lifted os started H enc)

theorem proved : Rows.WalMakesSaid := over

end Go.Proofs.Ytacpgahbfmpiiaa.walMakes
