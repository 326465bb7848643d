/-
  P4.3: a small log never fills up for ever: as many commits as one likes, each of three blocks, on a log of a few sectors, and all are there: the law answers true for every input, and its arguments read behind the call as before. No condition beside the row's own.
-/
import Derived.Test.YtaoldopkehbhkaaGreatMPgQ
import Derived.Test.YtaoldopkehbhkaaGreatMDisk
namespace Go.Proofs.YtaoldopkehbhkaaGreat.pagerLong
open Go.ChangeShapes Go.WideShapes Go.ChangeAt Go.RowKit Pgr

theorem own : ownKnob Tryz.prog.godebug = none := by kernel_rfl
theorem laidOut : laidOutB Tryz.prog = true := by kernel_rfl
/-- What the k-th transaction has written behind j writes. -/
def wr3 (k : Nat) : Nat → Com
  | 0 => fun _ => none
  | j + 1 => upd (wr3 k j) ((k + j) % 14) (sec [k, j])
theorem wr3_at {k i : Nat} : ∀ j, j ≤ 3 → i < j → wr3 k j ((k + i) % 14) = some (sec [k, i])
  | 0, _, h => by omega
  | j + 1, h3, h => by
    unfold wr3 upd
    by_cases e : i = j
    · subst e
      rw [if_pos rfl]
    · rw [if_neg (by omega)]
      exact wr3_at j (by omega) (by omega)
theorem wr3_dirt (k : Nat) : (dirt 14 (wr3 k 3)).length = 3 := by
  refine dirt_of_mem (L := [k % 14, (k + 1) % 14, (k + 2) % 14]) ?_ fun x => ?_
  · simp only [List.nodup_cons, List.mem_cons, List.not_mem_nil, or_false, not_or, List.nodup_nil, and_true, not_false_eq_true]
    omega
  · simp only [wr3, upd, Nat.add_zero, List.mem_cons, List.not_mem_nil, or_false]
    constructor
    · rintro ⟨_, h⟩
      by_cases h1 : x = (k + 2) % 14
      · exact .inr (.inr h1)
      · rw [if_neg h1] at h
        by_cases h2 : x = (k + 1) % 14
        · exact .inr (.inl h2)
        · rw [if_neg h2] at h
          by_cases h3 : x = k % 14
          · exact .inl h3
          · rw [if_neg h3] at h
            cases h
    · intro h
      refine ⟨by omega, ?_⟩
      split
      · rfl
      split
      · rfl
      · rw [if_pos (by omega)]
        rfl
theorem two_bts {w : World} {q x y : Nat} {T : TypeId} (h : Held w q T #[.int .u8 (x : Int), .int .u8 (y : Int)]) (hx : x < 256) (hy : y < 256) : Bts w (some ⟨q, 0, none⟩) 2 [x, y] := by
  refine ⟨rfl, fun z hz => ?_, fun _ => ⟨q, 0, rfl, h.lt, fun i hi => ?_⟩⟩
  · simp only [List.mem_cons, List.not_mem_nil, or_false] at hz
    omega
  · rw [Nat.zero_add, h.cell]
    have hi' : i = 0 ∨ i = 1 := by omega
    rcases hi' with rfl | rfl <;> rfl
theorem ne_self (a : Int) : (a != a) = false := by simp
set_option maxRecDepth 100000 in
set_option maxHeartbeats 6400000 in
theorem walk (x : Nat) (hx : x < 256) (sb : Bool) (w : World) :
    Calls Tryz.prog 8 #[.int .u8 (x : Int), .bool sb] w fun e w' => e = .returned (.bool true) ∧ Below w.heap.size w w' := by
  have hxi : (x : Int) < 256 := by omega
  have FX := Lib.hid (pfixed_any w)
  go_enter Tryz.func8, Tryz.ntmps8
  go_wp2_with fail
  refine FX.out.mono ?_
  rintro e w0 ⟨rfl, hb0⟩
  have B0 := Lib.hid hb0
  have ND := new_any w0 (20 : Int)
  rw [show clampN (20 : Int) = 20 from by decide] at ND
  have ND := Lib.hid ND
  clear hb0 FX
  go_wp2_with fail
  refine ND.out.mono ?_
  rintro e w1 ⟨d, F, rfl, hD, hb, hF⟩
  have MK := Lib.hid (l_make w w1 d F 20 6 hD (B0.out.trans (hb.mono B0.out.size)) (fun y hy => Nat.le_trans B0.out.size (hF y hy)) (by omega) (by omega))
  clear ND hD hb hF B0
  go_wp2_with fail
  refine MK.out.mono ?_
  rintro e w2 ⟨p, rfl, hP⟩
  have H2 := Lib.hid hP
  clear MK hP
  go_wp2_with fail
  go_loopw [8] (fun iv wr => ∃ k C, k ≤ x + 1 ∧ iv = .int .i64 (k : Nat) ∧ C.length = k ∧ Hold w wr p d 6 14 C ∧ (1 ≤ k → ∃ C0, C = C0 ++ [wr3 (k - 1) 3])) (fun iv _ => x + 1 - (intOf iv).toNat)
  case atStart => exact ⟨0, [], by omega, rfl, rfl, H2.out, fun h => by omega⟩
  case round =>
    clear H2
    obtain ⟨k, C, hk, rfl, hC, hH, hT⟩ := hrel
    have H := Lib.hid hH
    have HT := Lib.hid hT
    have HC := Lib.hid hC
    clear hH hT hC
    by_cases hlt : k ≤ x
    · have hlt' : (k : Int) ≤ (x : Int) := by omega
      have BG := Lib.hid (l_begin w wr p d 6 14 C H.out)
      clear H HT
      go_wp2_with fail
      refine BG.out.mono ?_
      rintro e w3 ⟨t, tm, rfl, hT3⟩
      have T3 := Lib.hid hT3
      clear BG hT3
      go_wp2_with fail
      go_loopw [11] (fun bv wr => ∃ j, j ≤ 3 ∧ bv = .int .i64 (j : Nat) ∧ HoldT w wr p d 6 14 t tm (wr3 k j) C) (fun bv _ => 3 - (intOf bv).toNat)
      case atStart => exact ⟨0, by omega, rfl, T3.out⟩
      case round =>
        clear T3
        obtain ⟨j, hj, rfl, hT4⟩ := hrel
        have T4 := Lib.hid hT4
        clear hT4
        by_cases hlj : j < 3
        · have hlj' : (j : Int) < 3 := by omega
          have E14 : Hid (((k : Int) + (j : Int)) % 14 = (((k + j) % 14 : Nat) : Int)) := by show _ = _; omega
          have WB : Hid (Below wr.heap.size wr (wr.alloc (.cells #[.int .u8 (k : Int), .int .u8 (j : Int)] 5))) := (Below.refl _ _).alloc (Nat.le_refl _) _
          have LT := T4.out.lt
          have WR := Lib.hid (l_write w _ p d 6 14 t tm _ C ((k + j) % 14) (some ⟨wr.heap.size, 0, none⟩) 2 2 [k, j] (T4.out.under WB.out) (by omega) (two_bts (Held.new wr 5 _ rfl) (by omega) (by omega)) (by omega) (fun _ x hx => by injection hx with hx; rw [← hx]; exact ⟨by show wr.heap.size ≠ p; omega, by show wr.heap.size ≠ tm; omega⟩))
          clear T4 LT WB
          go_wp2_with fail
          rw [E14.out]
          refine WR.out.mono ?_
          rintro e w5 ⟨rfl, hT5, _⟩
          have T5 := Lib.hid hT5
          clear hT5 WR E14
          go_wp2_with fail
          go_roundw
          case rel => exact ⟨j + 1, by omega, by go_num, T5.out⟩
          case measure => simp [intOf]; omega
        · obtain rfl : j = 3 := by omega
          have CM := l_commit w wr p d 6 14 t tm (wr3 k 3) C T4.out (by rw [HC.out]; omega)
          have CM := Lib.hid (CM.mono fun e w' h => h.some_ (by rw [wr3_dirt]; omega) (by rw [wr3_dirt, need_small T4.out.fine (wr3_dirt k)]; omega))
          rw [HC.out] at CM
          have C1 : Hid ((C ++ [wr3 k 3]).length = k + 1) := by show _ = _; rw [List.length_append, HC.out]; rfl
          have nn : (((k : Int) + 1) != ((k : Int) + 1)) = false := ne_self _
          clear T4 hlj
          go_wp2_with fail
          refine CM.out.mono ?_
          rintro e w5 ⟨rfl, hH5⟩
          have H5 := Lib.hid hH5
          have SY := Lib.hid (l_sync w w5 p d 6 14 _ hH5)
          clear CM hH5
          cases sb with
          | true =>
            go_wp2_with fail
            refine SY.out.mono ?_
            rintro e w6 ⟨rfl, P6, hP6, _⟩
            have H6 : Hid (Hold w w6 p d 6 14 (C ++ [wr3 k 3])) := ⟨P6, hP6⟩
            clear hP6 SY H5
            go_wp2_with fail
            go_roundw
            case rel => exact ⟨k + 1, C ++ [wr3 k 3], by omega, by go_num, C1.out, H6.out, fun _ => ⟨C, by rw [Nat.add_sub_cancel]⟩⟩
            case measure => simp [intOf]; omega
          | false =>
            clear SY
            go_wp2_with fail
            go_roundw
            case rel => exact ⟨k + 1, C ++ [wr3 k 3], by omega, by go_num, C1.out, H5.out, fun _ => ⟨C, by rw [Nat.add_sub_cancel]⟩⟩
            case measure => simp [intOf]; omega
    · obtain rfl : k = x + 1 := by omega
      obtain ⟨C0, rfl⟩ := HT.out (by omega)
      rw [Nat.add_sub_cancel] at H HT HC
      have BG := Lib.hid (l_begin w wr p d 6 14 _ H.out)
      clear H HT
      go_wp2_with fail
      refine BG.out.mono ?_
      rintro e w3 ⟨t, tm, rfl, hT3⟩
      have T3 := Lib.hid hT3
      clear BG hT3
      go_wp2_with fail
      go_loopw [16] (fun bv wr => ∃ j, j ≤ 3 ∧ bv = .int .i64 (j : Nat) ∧ HoldT w wr p d 6 14 t tm (fun _ => none) (C0 ++ [wr3 x 3])) (fun bv _ => 3 - (intOf bv).toNat)
      case atStart => exact ⟨0, by omega, rfl, T3.out⟩
      case round =>
        clear T3
        obtain ⟨j, hj, rfl, hT4⟩ := hrel
        have T4 := Lib.hid hT4
        clear hT4
        by_cases hlj : j < 3
        · have hlj' : (j : Int) < 3 := by omega
          have E14 : Hid (((x : Int) + (j : Int)) % 14 = (((x + j) % 14 : Nat) : Int)) := by show _ = _; omega
          have RD := l_read w wr p d 6 14 t tm _ _ ((x + j) % 14) T4.out (by omega)
          have es : seeB (C0 ++ [wr3 x 3]) (fun _ => none) ((x + j) % 14) = sec [x, j] := by
            unfold seeB
            rw [At_snoc, wr3_at 3 (by omega) hlj]
            rfl
          rw [es] at RD
          have RD := Lib.hid RD
          clear T4 es
          go_wp2_with fail
          rw [E14.out]
          refine RD.out.mono ?_
          rintro e w5 ⟨q, T, rfl, _, hh, hT5, _⟩
          have T5 := Lib.hid hT5
          have c0 : w5.cell? ⟨q, 0, none⟩ = some (.int .u8 (x : Int)) := (hh.cell 0).trans (by rfl)
          have c1 : w5.cell? ⟨q, 1, none⟩ = some (.int .u8 (j : Int)) := (hh.cell 1).trans (by rfl)
          clear RD hh hT5 E14
          go_wp2_with fail
          go_roundw
          case rel => exact ⟨j + 1, by omega, by go_num, T5.out⟩
          case measure => simp [intOf]; omega
        · obtain rfl : j = 3 := by omega
          have AB := Lib.hid (l_abort w wr p d 6 14 t tm _ _ T4.out)
          clear T4 hlj
          go_wp2_with fail
          refine AB.out.mono ?_
          rintro e w5 ⟨rfl, hH5, _⟩
          have SY := Lib.hid (l_sync w w5 p d 6 14 _ hH5)
          clear AB hH5
          go_wp2_with fail
          refine SY.out.mono ?_
          rintro e w6 ⟨rfl, P6, hP6, hs6⟩
          have SN := l_synced w w6 p d 6 14 _ _ P6 hP6 hs6
          rw [HC.out] at SN
          have SN : Hid (Calls Tryz.prog 21 #[.pointer (some ⟨p, 0, none⟩)] w6 fun e w' => e = .returned (.int .i64 ((x : Int) + 1)) ∧ w6 = w') := by
            have h9 : (((x + 1 : Nat) : Int)) = (x : Int) + 1 := by omega
            rw [h9] at SN
            exact SN
          have BB := Lib.hid hP6.below
          clear hP6 hs6 SY
          go_wp2_with fail
          refine SN.out.mono ?_
          rintro e w7 ⟨rfl, rfl⟩
          go_wp2_with fail
          go_ret
          exact ⟨rfl, BB.out⟩
set_option maxRecDepth 100000 in
theorem opens {H : Type} {enc : TypeId × Value → H} {W : World} {base : Nat} {args : Array Value} {ds : List (DataW H)} {p : List MemPlace}
    (hval : ∀ (j : Nat) t v, Tryz.f8.params[j]? = some t → args[j]? = some v → Value.okWide Tryz.prog W .any base t v)
    (hA : DataW.TrodAll enc Tryz.prog W 0 (fun _ => true) true Tryz.f8.params.toList args.toList ds p) (hlt : ∀ x ∈ p, x.block < W.heap.size) (hsz : (DataW.weightsEach Tryz.prog Tryz.f8.params.toList ds).all (· ≤ reachBytes) = true) :
    Calls Tryz.prog 8 args W fun e W' => e = .returned (.bool true) ∧ Below W.heap.size W W' := by
  rw [Tryz.params8] at hA hval hsz
  obtain ⟨v0, vs0, d0, ds0, p0, q0, hargs, rfl, rfl, h0, r0⟩ := trodAll_cons hA
  obtain ⟨v1, vs1, d1, ds1, p1, q1, rfl, rfl, rfl, h1, r1⟩ := trodAll_cons r0
  obtain ⟨rfl, rfl, rfl⟩ := trodAll_nil r1
  obtain rfl : args = #[v0, v1] := by cases args; simp_all
  obtain ⟨x, rfl, hx⟩ := open_u8 (hval 0 5 v0 rfl rfl) h0
  obtain ⟨y, rfl⟩ := okWide_bool Tryz.underlying4 (hval 1 4 v1 rfl rfl)
  exact walk x hx y W

set_option maxRecDepth 100000 in
theorem lifted (os : Os) (started : os.Started) (H : Type) (enc : TypeId × Value → H) :
    ReturnsInHanded {} Tryz.checked os 8 .any (Rows.pagerLongSpec.pre6 enc Tryz.prog Tryz.f8 Rows.pagerLongRow.domain false) (Rows.pagerLongSpec.post enc Tryz.prog Tryz.f8 false true false false) := by
  refine returnsInHanded_of_change_sized (C := Tryz.checked) own started (by kernel_rfl) Tryz.func8
    (ChangeSpec.witness6 (enc := enc) (C := Tryz.checked) false ⟨#[], #[.int .u8 0, .bool false], []⟩ 8 (by kernel_rfl) (by kernel_rfl) (by kernel_rfl) (by kernel_rfl)) ?_
  intro W base args ds gs before hval hW _ hsz0 _
  refine law_calls laidOut Tryz.underlying4 rfl (by rw [Tryz.params8]; exact of_decide_eq_true (by kernel_rfl)) rfl (fun ds h => by match ds, h with | [_, _], _ => rfl) hW ?_
  obtain ⟨rfl, p, hA, hlt⟩ := law_args rfl hW
  have hsz : (DataW.weightsEach Tryz.prog (Tryz.f8.params.toList ++ []) (ds ++ [])).all (· ≤ reachBytes) = true := hsz0
  rw [List.append_nil, List.append_nil] at hsz
  exact opens hval hA hlt hsz

theorem over : Rows.pagerLongRow.holds Tryz.pinned (OpenSpec.ofChange Rows.pagerLongSpec) :=
  OpenClaim.holds_of_wide 8 Tryz.f8 rfl rfl rfl rfl rfl rfl rfl ⟨rfl, rfl, rfl, rfl, rfl⟩ rfl rfl rfl rfl rfl (by kernel_rfl) Tryz.func8 (by kernel_rfl)
    (of_decide_eq_true (by kernel_rfl)) (by unfold Func.isWrapper; first | (rw [if_pos (by decide +kernel)]; kernel_rfl) | (rw [if_neg (by decide +kernel)]; exact ⟨rfl, rfl⟩))
    (fun os started H enc _ => lifted os started H enc)

theorem proved : Rows.PagerLongSaid := over

end Go.Proofs.YtaoldopkehbhkaaGreat.pagerLong
