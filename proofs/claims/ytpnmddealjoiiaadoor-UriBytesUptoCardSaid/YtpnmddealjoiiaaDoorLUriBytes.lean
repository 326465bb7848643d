/-
  UriBytes: any text, each of its bytes written as % and two digits, is read as one segment, if it is one; or as no path.
-/
import Derived.Test.YtpnmddealjoiiaaDoorU31
import Derived.Test.YtpnmddealjoiiaaDoorU9
namespace Go.Proofs.YtpnmddealjoiiaaDoor.uriBytes
open Go.ChangeShapes Go.WideShapes Go.ChangeAt Go.RowKit Uri
open Go.ChangeMaps (open_string shut_string)

/-- The text of the digits. -/
def DigT (DG : ByteArray) (D : Nat → Nat) : Prop := Digits D ∧ (∀ x, x < 16 → D x < 256) ∧ DG.size = 16 ∧ ∀ k (hk : k < DG.size), (DG[k]'hk).toNat = D k
theorem digT_up : DigT ⟨#[48, 49, 50, 51, 52, 53, 54, 55, 56, 57, 65, 66, 67, 68, 69, 70]⟩ dig := ⟨digits_up, fun x h => by unfold dig; split <;> omega, rfl, fun k hk => up_at k hk⟩
theorem digT_low : DigT ⟨#[48, 49, 50, 51, 52, 53, 54, 55, 56, 57, 97, 98, 99, 100, 101, 102]⟩ digS := ⟨digits_low, fun x h => by unfold digS; split <;> omega, rfl, fun k hk => low_at k hk⟩
set_option maxRecDepth 100000 in
set_option maxHeartbeats 3200000 in
theorem walk (w : World) (s : ByteArray) (small : Bool) (hs : s.size ≤ 1048576) (E : Env w) :
    Calls Tryd.prog 8 #[.string s, .bool small] w fun e w' => e = .returned (.bool true) ∧ Below w.heap.size w w' := by
  have HE := Lib.hid E
  have FX := Lib.hid (fixed_any w E)
  have FY : Hid (∀ u, Below w.heap.size w u → Calls Tryd.prog 9 #[] u fun e w' => e = .returned (.bool true) ∧ Below w.heap.size w w') := fun u hu => (fixed_any u (E.below hu)).mono (fun e w' h => ⟨h.1, hu.trans (h.2.mono hu.size)⟩)
  have HX1 : Hid (∀ y ∈ [s], y.size ≤ 4194304) := fun y hy => by
    have e : y = s := by simpa using hy
    subst e
    omega
  obtain ⟨gx, hgx⟩ : ∃ g, g = good (txts [s]) := ⟨_, rfl⟩
  have GX := Lib.hid hgx
  have HAt : Hid (∀ k (hk : k < s.size), (s[k]'hk).toNat = (nums s).getD k 0) := fun k hk => nat_at s k hk
  have HLN : Hid ((nums s).length = s.size) := nums_length s
  clear E hs hgx
  go_enter Tryd.func8, Tryd.ntmps8
  go_wp2_with fail
  refine FX.out.mono ?_
  rintro e w1 ⟨rfl, hb1⟩
  have B1 := Lib.hid hb1
  clear hb1 FX
  by_cases h400 : 400 < s.size
  · have hz : (400 : Int) < (s.size : Int) := by omega
    go_wp2_with fail
    refine (FY.out _ B1.out).mono ?_
    rintro e w2 ⟨rfl, hb2⟩
    have B2 := Lib.hid hb2
    clear hb2
    go_wp2_with fail
    go_ret
    exact ⟨rfl, B2.out⟩
  have hz : ¬ (400 : Int) < (s.size : Int) := by omega
  go_upto_if 19 with fail
  go_cut [5] (fun v wc => ∃ (DG : ByteArray) (D : Nat → Nat), v = .string DG ∧ w1 = wc ∧ Hid (DigT DG D))
  case first =>
    cases small
    · go_wp2_with fail
      go_meet
      case rel => exact ⟨_, _, rfl, rfl, digT_up⟩
    · go_wp2_with fail
      go_meet
      case rel => exact ⟨_, _, rfl, rfl, digT_low⟩
  case rest =>
  obtain ⟨DG, D, rfl, rfl, HD⟩ := hcut
  have CV := cv_mark (w1.alloc (.cells #[.int .u8 47] 5)) w1.heap.size (heap_alloc_new w1 _)
  have O1 := Lib.hid (fb_mark w1 w.heap.size B1.out.size)
  have N1 : Hid (Below w.heap.size w ((w1.alloc (.cells #[.int .u8 47] 5)).freeze ⟨w1.heap.size, 1, none⟩ 1)) := Lib.below_freeze (B1.out.trans ((Below.refl _ _).alloc B1.out.size _)) B1.out.size 1
  go_upto_region 7 with fail
  obtain ⟨wM, hM⟩ : ∃ u, u = ((w1.alloc (.cells #[.int .u8 47] 5)).freeze ⟨w1.heap.size, 1, none⟩ 1) := ⟨_, rfl⟩
  rw [← hM] at O1 N1 ⊢
  clear hM CV
  go_wp2_with fail
  go_loopw [6, 7] (fun v i wr => ∃ (m : Nat), m ≤ s.size ∧ i = .int .i64 m ∧ Hid (FB wr w.heap.size v ([47] ++ encD D ((nums s).take m))) ∧ Hid (Below w.heap.size w wr)) (fun _ i _ => s.size - (intOf i).toNat)
  case atStart => exact ⟨0, by omega, rfl, by show FB _ _ _ _; simpa [encD] using O1.out, N1⟩
  case round =>
    obtain ⟨m, hm, rfl, HO3, HB3⟩ := hrel
    by_cases hmlt : m < s.size
    · obtain ⟨y, hy⟩ : ∃ y, y = (nums s).getD m 0 := ⟨_, rfl⟩
      have ey : ((s[m]'hmlt).toNat : Int) = (y : Int) := by rw [HAt.out, ← hy]
      have Y8 : Hid (y < 256) := by show y < 256; rw [hy]; exact getD_lt _ _
      have TK : Hid ((nums s).take (m + 1) = (nums s).take m ++ [y]) := by show _ = _; rw [hy]; exact take_next (by rw [HLN.out]; exact hmlt)
      have LEN : Hid (([47] ++ encD D ((nums s).take m)).length ≤ 1201) := by
        show _ ≤ _
        rw [List.length_append, encD_len, List.length_take, HLN.out]
        simp only [List.length_cons, List.length_nil]
        omega
      obtain ⟨p1, hp1⟩ : ∃ p, p = y / 16 := ⟨_, rfl⟩
      obtain ⟨p2, hp2⟩ : ∃ p, p = y % 16 := ⟨_, rfl⟩
      have EN : Hid ((encD D [y]) = [37, D p1, D p2]) := by show _ = _; rw [hp1, hp2]; rfl
      have l1 : p1 < 16 := by have := Y8.out; omega
      have l2 : p2 < 16 := by omega
      have T3 := Lib.hid (bts_three wr 37 (D p1) (D p2) (by omega) (HD.out.2.1 p1 l1) (HD.out.2.1 p2 l2) 5 (0, 0) _ rfl)
      have dsz : DG.size = 16 := HD.out.2.2.1
      have g1 : p1 < DG.size := by omega
      have g2 : p2 < DG.size := by omega
      have u1 := HD.out.2.2.2 p1 g1
      have u2 := HD.out.2.2.2 p2 g2
      have z1 : IntKind.u8.wrap ((y : Int) / 16) = (p1 : Int) := by show (y : Int) / 16 % 256 = _; have := Y8.out; omega
      have z2 : (y : Int).tmod 16 = (p2 : Int) := by rw [Int.tmod_eq_emod_of_nonneg (by omega)]; omega
      have z3 : (p1 : Int) < 16 := by omega
      have z4 : (p2 : Int) < 16 := by omega
      clear hy hp1 hp2
      go_upto_region 10 with fail
      go_region_law (refine step_append_fb _ rfl (.tmp 28) (.tmp 41) rfl w.heap.size _ _ ?q1 (HO3.out.alloc _).drew _ 3 3 [37, D p1, D p2] ?q2 T3.out.drew (by omega) (by have := LEN.out; omega) (by have := HB3.out.size; simp; omega) ?_; (case q1 => simp [Act.eval]); (case q2 => simp [Act.eval]); intro v4 w4 hown4 hb4; have O4 := Lib.hid hown4; have B4 : Hid (Below w.heap.size w w4) := (HB3.out.alloc HB3.out.size (.cells #[.int .u8 ((37 : Nat) : Int), .int .u8 (D p1 : Int), .int .u8 (D p2 : Int)] 5)).drew.trans hb4; clear hown4 hb4)
      all_goals
        go_wp2_with fail
        go_roundw
        case rel => exact ⟨m + 1, by omega, by go_num, by show FB _ _ _ _; rw [TK.out, encD_snoc, ← List.append_assoc]; exact .inl (by have h := O4.out; rw [← EN.out] at h; exact h), B4⟩
        case measure => simp [intOf]; omega
    · obtain rfl : m = s.size := by omega
      have TL : Hid ((nums s).take s.size = nums s) := by show _ = _; rw [← HLN.out, List.take_length]
      rw [TL.out] at HO3
      obtain ⟨A2, cap, rfl, hbt⟩ := HO3.out.any
      have CV : (convert 35 9 (.slice A2 ([47] ++ encD D (nums s)).length cap)).run Tryd.prog wr = .ok (.string (strB ([47] ++ encD D (nums s)))) wr := hbt.toStr byteT Tryd.underlying9 cap
      have PV : Hid (Uri.parse (nums (strB ([47] ++ encD D (nums s)))) = if fine (nums s) = true then (if 64 < (nums s).length then ([], false, 5) else if nums s = [46, 46] then ([], false, 20) else if dots (nums s) = true then ([], true, 0) else ([nums s], false, 0)) else ([], false, 20)) := by
        show _ = _
        rw [nums_strB hbt.2.1]
        exact bytes_parse HD.out.1 (nums_lt s)
      have SZ : Hid ((strB ([47] ++ encD D (nums s))).size ≤ 4194303) := by
        show _ ≤ _
        rw [strB_size, List.length_append, encD_len, HLN.out]
        simp only [List.length_cons, List.length_nil]
        omega
      obtain ⟨T, hT⟩ : ∃ T, T = strB ([47] ++ encD D (nums s)) := ⟨_, rfl⟩
      rw [← hT] at CV PV SZ
      obtain ⟨ln, hln⟩ : ∃ ln, ln = ([47] ++ encD D (nums s)).length := ⟨_, rfl⟩
      rw [← hln] at CV ⊢
      clear hT hln hbt
      have PA := Lib.hid (parse_any wr T SZ.out (HE.out.below HB3.out))
      go_upto_region 11 with fail
      go_wp2_with fail
      refine PA.out.mono ?_
      rintro e w7 ⟨⟨A7, c7, D7, d7, r7, rfl, hc7, hs7, h7⟩, hb7⟩
      have B7 := Lib.hid (HB3.out.trans (hb7.mono HB3.out.size))
      have S7 := Lib.hid hs7
      rw [PV.out] at h7
      have H7 := Lib.hid h7
      clear hs7 h7 hb7 PA hc7 CV
      have L8 := Lib.hid (strs_lit w7 [s] 9 (0, 0) _ rfl)
      have N8 : Hid (Below w7.heap.size w7 (w7.alloc (.cells #[.string s] 9))) := (Below.refl _ _).alloc (Nat.le_refl _) _
      have N9 : Hid (Below w.heap.size w (w7.alloc (.cells #[.string s] 9))) := B7.out.trans (N8.out.mono B7.out.size)
      have GB := Lib.hid (good_any (w7.alloc (.cells #[.string s] 9)) _ 1 1 [s] (by omega) L8.out HX1.out (HE.out.below N9.out))
      rw [← GX.out] at GB
      go_wp2_with fail
      refine GB.out.mono ?_
      rintro e w8 ⟨rfl, hb8⟩
      have B8 := Lib.hid (N9.out.trans (hb8.mono N9.out.size))
      have S8 := Lib.hid ((S7.out.below N8.out).below hb8)
      clear hb8 GB L8 N8 N9 S7
      have f0 := isEmpty_nums s
      have f1 := beq_lit s [46]
      simp only [List.map_cons, List.map_nil, UInt8.reduceToNat] at f1
      cases gx
      · have SG : Hid (seg (nums s) = false) := by
          have h := GX.out
          show _ = _
          unfold good at h
          simpa [txts] using h.symm
        by_cases h0 : nums s = []
        · have h7 := H7.out
          rw [h0, if_pos (by decide), if_neg (by decide), if_neg (by decide), if_pos (by decide)] at h7
          simp only [Prod.mk.injEq] at h7
          obtain ⟨h7, rfl, rfl⟩ := h7
          obtain rfl := nums_inj3 (l := []) h7
          rw [decide_eq_true h0] at f0
          clear h7 h0 f1
          go_wp2_with fail
          go_ret
          exact ⟨by simp, B8.out⟩
        rw [decide_eq_false h0] at f0
        by_cases h1 : nums s = [46]
        · have h7 := H7.out
          rw [h1, if_pos (by decide), if_neg (by decide), if_neg (by decide), if_pos (by decide)] at h7
          simp only [Prod.mk.injEq] at h7
          obtain ⟨h7, rfl, rfl⟩ := h7
          obtain rfl := nums_inj3 (l := []) h7
          rw [decide_eq_true h1] at f1
          clear h7 h0 h1
          go_wp2_with fail
          go_ret
          exact ⟨by simp, B8.out⟩
        rw [decide_eq_false h1] at f1
        have R7 : (txts D7, d7, r7) = ([], false, 20) ∨ ((txts D7, d7, r7) = ([], false, 5) ∧ 64 < s.size) := by
          rw [← H7.out]
          by_cases hf : fine (nums s) = true
          · rw [if_pos hf]
            by_cases h64 : 64 < (nums s).length
            · rw [if_pos h64]
              exact .inr ⟨rfl, by rw [HLN.out] at h64; exact h64⟩
            · rw [if_neg h64]
              by_cases h2 : nums s = [46, 46]
              · rw [if_pos h2]
                exact .inl rfl
              · exfalso
                have hd : dots (nums s) = false := by
                  unfold dots
                  exact decide_eq_false (fun h => h.elim h0 (fun h => h.elim h1 h2))
                have h3 := seg_of hd (by omega) hf
                rw [SG.out] at h3
                cases h3
          · rw [if_neg hf]
            exact .inl rfl
        clear h0 h1
        rcases R7 with h7 | ⟨h7, h64⟩
        · simp only [Prod.mk.injEq] at h7
          obtain ⟨h7, rfl, rfl⟩ := h7
          obtain rfl := nums_inj3 (l := []) h7.symm
          clear h7
          go_wp2_with fail
          go_ret
          exact ⟨by simp, B8.out⟩
        · simp only [Prod.mk.injEq] at h7
          obtain ⟨h7, rfl, rfl⟩ := h7
          obtain rfl := nums_inj3 (l := []) h7.symm
          have h64z : (64 : Int) < (s.size : Int) := by omega
          clear h7
          go_wp2_with fail
          go_ret
          exact ⟨by simp, B8.out⟩
      · have SG : seg (nums s) = true := by
          have h := GX.out
          unfold good at h
          simpa [txts] using h.symm
        obtain ⟨sd, sl, sf⟩ := seg_parts SG
        have h7 := H7.out
        rw [if_pos sf, if_neg (by omega), if_neg (fun e => by rw [e] at sd; exact absurd sd (by decide)), if_neg (by rw [sd]; simp)] at h7
        simp only [Prod.mk.injEq] at h7
        obtain ⟨h7, rfl, rfl⟩ := h7
        obtain rfl := nums_inj3 (l := [s]) h7
        obtain ⟨b, off, s', rfl, e1, x1, _⟩ := S8.out.at_ (k := 0) (by simp)
        simp only [List.getElem?_cons_zero, Option.some.injEq] at e1
        subst e1
        rw [Nat.add_zero] at x1
        clear h7 SG sd sl sf f0 f1
        go_wp2_with fail
        go_ret
        exact ⟨by simp, B8.out⟩
set_option maxRecDepth 100000 in
theorem opens {H : Type} {enc : TypeId × Value → H} {W : World} {base : Nat} {args : Array Value} {ds : List (DataW H)} {p : List MemPlace}
    (hval : ∀ (j : Nat) t v, Tryd.f8.params[j]? = some t → args[j]? = some v → Value.okWide Tryd.prog W .any base t v)
    (hA : DataW.TrodAll enc Tryd.prog W 0 (fun _ => true) true Tryd.f8.params.toList args.toList ds p) (hlt : ∀ x ∈ p, x.block < W.heap.size) (hk : Rows.uptoBulkAll ds ≤ 1048576) (hE : Env W) :
    Calls Tryd.prog 8 args W fun e W' => e = .returned (.bool true) ∧ Below W.heap.size W W' := by
  rw [Tryd.params8] at hA hval
  obtain ⟨v0, vs0, d0, ds0, p0, q0, hargs, rfl, rfl, h0, r0⟩ := trodAll_cons hA
  obtain ⟨v1, vs1, d1, ds1, p1, q1, rfl, rfl, rfl, h1, r1⟩ := trodAll_cons r0
  obtain ⟨rfl, rfl, rfl⟩ := trodAll_nil r1
  obtain rfl : args = #[v0, v1] := Array.toList_inj.1 hargs
  simp only [Rows.uptoBulkAll] at hk
  obtain ⟨s, rfl, rfl, rfl, ws⟩ := open_string Tryd.underlying9 (hval 0 9 v0 rfl rfl) h0
  obtain ⟨small, rfl, rfl, rfl⟩ := open_bool Tryd.underlying4 (hval 1 4 v1 rfl rfl) h1
  have hb : s.data.toList.length = s.size := Array.length_toList
  simp only [Rows.uptoBulk] at hk
  exact walk W s small (by omega) hE
theorem witness_row (os : Os) {H : Type} (enc : TypeId × Value → H) :
    (Rows.OpenSpec.upto Rows.uriBytesSpec).preRow enc Tryd.prog Tryd.f8 Rows.uriBytesUptoRow.domain false Rows.uriBytesUptoRow.laid ((startW os).forCall (fun _ _ => 0) ⟨#[], #[.string ⟨#[]⟩, .bool false], []⟩).memory #[.string ⟨#[]⟩, .bool false] := by
  have hw : (DataW.whole enc Tryd.prog ((startW os).forCall (fun _ _ => 0) ⟨#[], #[.string ⟨#[]⟩, .bool false], []⟩).memory Tryd.f8.params.toList Rows.uriBytesSpec.vars false (#[.string ⟨#[]⟩, .bool false] : Array Value).toList 8).map (fun x => (x.1, x.2.1)) =
      some ([.lit (.string []), .lit (.bool false)], []) := by kernel_rfl
  obtain ⟨⟨x1, x2, x3⟩, hx, hx1⟩ := Option.map_eq_some_iff.1 hw
  simp only [Prod.mk.injEq] at hx1
  obtain ⟨rfl, rfl⟩ := hx1
  exact OpenSpec.preRow_of_cond 8 hx (by kernel_rfl) (fun k hk => by cases hk; kernel_rfl) (by kernel_rfl) (door_met os _)
set_option maxRecDepth 100000 in
theorem lifted (os : Os) (started : os.Started) (H : Type) (enc : TypeId × Value → H) (F : Stop.Interp) :
    ReturnsInHanded {} Tryd.checked os 8 .any ((Rows.OpenSpec.upto Rows.uriBytesSpec).preRow enc Tryd.prog Tryd.f8 Rows.uriBytesUptoRow.domain false Rows.uriBytesUptoRow.laid) (((Rows.OpenSpec.upto Rows.uriBytesSpec).at F).post enc Tryd.prog Tryd.f8 false true false false) := by
  refine returnsInHanded_of_row (C := Tryd.checked) (s := Rows.OpenSpec.upto Rows.uriBytesSpec) own started (by kernel_rfl) Tryd.func8
    (witness_row_atRef (enc := enc) (C := Tryd.checked) false (startW os) #[.string ⟨#[]⟩, .bool false] rfl (by kernel_rfl) (by kernel_rfl) (by kernel_rfl) (witness_row os enc)) ?_
  intro W base args ds gs before hval hW _ hcond _ hL _ _
  have hk := hcond _ rfl
  refine law_calls (s := Rows.uriBytesSpec) laidOut Tryd.underlying4 rfl (by rw [Tryd.params8]; exact of_decide_eq_true (by kernel_rfl)) rfl (fun ds h => by match ds, h with | [_, _], _ => rfl) hW ?_
  obtain ⟨rfl, p, hA, hlt⟩ := law_args rfl hW
  have hb : Rows.uptoBulkAll (ds ++ []) ≤ 1048576 := of_decide_eq_true hk
  rw [List.append_nil] at hb
  exact opens hval hA hlt hb (env_of hL)

theorem saidUpto : Rows.UriBytesUptoSaid :=
  OpenClaim.holds_of_cond 8 Tryd.f8 rfl rfl rfl rfl rfl rfl rfl ⟨rfl, rfl, rfl, rfl, rfl⟩ rfl rfl rfl rfl rfl (by kernel_rfl) Tryd.func8 (by kernel_rfl)
    (of_decide_eq_true (by kernel_rfl)) (by unfold Func.isWrapper; first | (rw [if_pos (by decide +kernel)]; kernel_rfl) | (rw [if_neg (by decide +kernel)]; exact ⟨rfl, rfl⟩))
    (fun os started H enc _ F => by rw [OpenClaim.pre_eq_preRow]; exact lifted os started H enc F)
theorem plain (f : FuncId) (fn : Func) (hf : Tryd.pinned.checked.prog.funcNamed "docket/docketlaw09.UriBytes" = some f) (hfn : Tryd.pinned.checked.prog.funcs[f]? = some fn) :
    true = Tryd.pinned.checked.prog.looks [] ∧ ∀ (j : Nat) t, fn.params[j]? = some t → Tryd.pinned.checked.prog.wantsStandIn t = false := by
  obtain rfl : f = 8 := Option.some.inj ((show Tryd.prog.funcNamed "docket/docketlaw09.UriBytes" = some 8 by kernel_rfl).symm.trans hf) |>.symm
  obtain rfl : fn = Tryd.f8 := (Option.some.inj (Tryd.func8.symm.trans hfn)).symm
  exact ⟨by kernel_rfl, fun j t ht => (of_decide_eq_true (p := ∀ t ∈ Tryd.f8.params.toList, Tryd.prog.wantsStandIn t = false) (by kernel_rfl)) t (Array.mem_toList_iff.2 (Array.mem_of_getElem? ht))⟩
theorem proved : Rows.UriBytesUptoCardSaid :=
  Claim7.holds_tied_plain_at .later [] _ _ _ _ saidUpto (fun _ h => by cases h) (by kernel_rfl) (fun _ h => by cases h) uriBytesUpto_row_tie rfl ⟨rfl, rfl⟩ (by kernel_rfl) rfl plain (by kernel_rfl)

end Go.Proofs.YtpnmddealjoiiaaDoor.uriBytes
