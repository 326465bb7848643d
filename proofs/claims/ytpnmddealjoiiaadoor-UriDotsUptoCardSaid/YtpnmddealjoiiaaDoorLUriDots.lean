/-
  UriDots: nobody climbs out of the root; what is added and taken away again adds nothing.
-/
import Derived.Test.YtpnmddealjoiiaaDoorU30
namespace Go.Proofs.YtpnmddealjoiiaaDoor.uriDots
open Go.ChangeShapes Go.WideShapes Go.ChangeAt Go.RowKit Uri
open Go.ChangeMaps (open_string shut_string)

theorem text_root {D : List ByteArray} (h : good (txts D) = true) : (nums (strB (text (txts D))) = [47] ∧ form (txts D) = [] ) ∨ (nums (strB (text (txts D))) ≠ [47] ∧ nums (strB (text (txts D))) = form (txts D)) := by
  rw [nums_strB (text_bytes (txts_bytes D))]
  unfold text
  rw [if_pos h]
  by_cases hf : form (txts D) = []
  · rw [if_pos hf]
    exact .inl ⟨rfl, hf⟩
  · rw [if_neg hf]
    refine .inr ⟨fun e => ?_, rfl⟩
    cases hD : txts D with
    | nil => exact hf (by rw [hD]; rfl)
    | cons s r =>
      rw [hD, form_cons] at e
      have hs : seg s = true := (good_parts h).1 s (by rw [hD]; simp)
      have h1 := (seg_parts hs).1
      cases s with
      | nil => exact absurd h1 (by decide)
      | cons c s =>
        have e2 : enc (c :: s) = enc1 c ++ enc s := by simp [enc]
        have e3 : enc1 c ≠ [] := by unfold enc1; split <;> simp
        rw [e2] at e
        injection e with _ e
        have e4 := congrArg List.length e
        have e5 := List.length_pos_iff.2 e3
        simp only [List.length_append, List.length_nil] at e4
        omega
theorem form_small {D : List ByteArray} (h : good (txts D) = true) (hl : D.length ≤ 11) : (form (txts D)).length ≤ 2123 := by
  have h1 := good_parts h
  have h2 := form_len (txts D) (fun s hs => (seg_parts (h1.1 s hs)).2.1)
  rw [txts_length] at h2
  omega
set_option maxRecDepth 100000 in
set_option maxHeartbeats 3200000 in
theorem walk (w : World) (A : Option Addr) (n c : Nat) (a : List ByteArray) (x : ByteArray) (ha : Strs w A n a) (hn : n ≤ 1048576) (hz : ∀ x ∈ a, x.size ≤ 1048576) (hs : x.size ≤ 1048576) (E : Env w) :
    Calls Tryd.prog 6 #[.slice A n c, .string x] w fun e w' => e = .returned (.bool true) ∧ Below w.heap.size w w' := by
  have HE := Lib.hid E
  have FX := Lib.hid (fixed_any w E)
  have FY : Hid (∀ u, Below w.heap.size w u → Calls Tryd.prog 9 #[] u fun e w' => e = .returned (.bool true) ∧ Below w.heap.size w w') := fun u hu => (fixed_any u (E.below hu)).mono (fun e w' h => ⟨h.1, hu.trans (h.2.mono hu.size)⟩)
  have HA := Lib.hid ha
  have HN := Lib.hid hn
  have HZ : Hid (∀ x ∈ a, x.size ≤ 4194304) := fun x hx => by have := hz x hx; omega
  have HX1 : Hid (∀ y ∈ [x], y.size ≤ 4194304) := fun y hy => by
    have e : y = x := by simpa using hy
    subst e
    omega
  obtain ⟨g, hg⟩ : ∃ g, g = good (txts a) := ⟨_, rfl⟩
  have G := Lib.hid hg
  obtain ⟨gx, hgx⟩ : ∃ g, g = good (txts [x]) := ⟨_, rfl⟩
  have GX := Lib.hid hgx
  have HLA : Hid (a.length = n) := ha.1
  clear E ha hn hz hs hg hgx
  go_enter Tryd.func6, Tryd.ntmps6
  go_wp2_with fail
  refine FX.out.mono ?_
  rintro e w1 ⟨rfl, hb1⟩
  have B1 := Lib.hid hb1
  have GA := Lib.hid (good_any w1 A n c a (by have := HN.out; omega) (HA.out.below hb1) HZ.out (HE.out.below hb1))
  rw [← G.out] at GA
  clear hb1 FX
  go_wp2_with fail
  refine GA.out.mono ?_
  rintro e w2 ⟨rfl, hb2⟩
  have B2 := Lib.hid (B1.out.trans (hb2.mono B1.out.size))
  clear hb2 GA
  cases g
  · go_wp2_with fail
    refine (FY.out _ B2.out).mono ?_
    rintro e w3 ⟨rfl, hb3⟩
    have B3 := Lib.hid hb3
    clear hb3
    go_wp2_with fail
    go_ret
    exact ⟨rfl, B3.out⟩
  · have L3 := Lib.hid (strs_lit w2 [x] 9 (0, 0) _ rfl)
    have N3 : Hid (Below w.heap.size w (w2.alloc (.cells #[.string x] 9))) := B2.out.trans ((Below.refl _ _).alloc B2.out.size _)
    have GB := Lib.hid (good_any (w2.alloc (.cells #[.string x] 9)) _ 1 1 [x] (by omega) L3.out HX1.out (HE.out.below N3.out))
    rw [← GX.out] at GB
    go_wp2_with fail
    refine GB.out.mono ?_
    rintro e w3 ⟨rfl, hb3⟩
    have B3 := Lib.hid (N3.out.trans (hb3.mono N3.out.size))
    clear hb3 GB L3 N3
    cases gx
    · go_wp2_with fail
      refine (FY.out _ B3.out).mono ?_
      rintro e w4 ⟨rfl, hb4⟩
      have B4 := Lib.hid hb4
      clear hb4
      go_wp2_with fail
      go_ret
      exact ⟨rfl, B4.out⟩
    · by_cases h11 : 11 < n
      · have h11z : (11 : Int) < (n : Int) := by omega
        go_wp2_with fail
        refine (FY.out _ B3.out).mono ?_
        rintro e w4 ⟨rfl, hb4⟩
        have B4 := Lib.hid hb4
        clear hb4
        go_wp2_with fail
        go_ret
        exact ⟨rfl, B4.out⟩
      · have h11z : ¬ (11 : Int) < (n : Int) := by omega
        have TA := Lib.hid (text_of w3 A n c a (by have := HN.out; omega) (HA.out.below B3.out) HZ.out (HE.out.below B3.out))
        have TR := Lib.hid (text_root G.out.symm)
        obtain ⟨t, ht⟩ : ∃ t, t = strB (text (txts a)) := ⟨_, rfl⟩
        rw [← ht] at TA TR
        clear ht
        go_wp2_with fail
        refine TA.out.mono ?_
        rintro e w4 ⟨rfl, hb4⟩
        have B4 := Lib.hid (B3.out.trans (hb4.mono B3.out.size))
        clear hb4 TA
        go_upto_region 4 with fail
        have f1 := beq_lit t [47]
        simp only [List.map_cons, List.map_nil, UInt8.reduceToNat] at f1
        obtain ⟨bb, hbb⟩ : ∃ bb, bb = decide (nums t = [47]) := ⟨_, rfl⟩
        have BB := Lib.hid hbb
        rw [← hbb] at f1
        clear hbb
        go_upto_if 36 with fail
        go_cut [5] (fun v wc => ∃ S : ByteArray, v = .string S ∧ w4 = wc ∧ Hid (nums S = form (txts a)))
        case first =>
          cases bb
          · have NF : Hid (nums t = form (txts a)) := by
              rcases TR.out with h | h
              · exact absurd h.1 (of_decide_eq_false BB.out.symm)
              · exact h.2
            go_wp2_with fail
            go_meet
            case rel => exact ⟨_, rfl, rfl, NF⟩
          · have NF : Hid (nums ⟨#[]⟩ = form (txts a)) := by
              rcases TR.out with h | h
              · exact h.2.symm
              · exact absurd (of_decide_eq_true BB.out.symm) h.1
            go_wp2_with fail
            go_meet
            case rel => exact ⟨_, rfl, rfl, NF⟩
        case rest =>
        obtain ⟨S, rfl, rfl, NS⟩ := hcut
        clear f1
        have L5 := Lib.hid (strs_lit w4 [x] 9 (0, 0) _ rfl)
        have N5 : Hid (Below w.heap.size w (w4.alloc (.cells #[.string x] 9))) := B4.out.trans ((Below.refl _ _).alloc B4.out.size _)
        have TX := Lib.hid (text_of (w4.alloc (.cells #[.string x] 9)) _ 1 1 [x] (by omega) L5.out HX1.out (HE.out.below N5.out))
        have SX := Lib.hid (back_size [x])
        have NX : Hid (nums (strB (text (txts [x]))) = text [nums x]) := nums_strB (text_bytes (txts_bytes [x]))
        obtain ⟨t2, ht2⟩ : ∃ t, t = strB (text (txts [x])) := ⟨_, rfl⟩
        rw [← ht2] at TX SX NX
        clear ht2
        have SS : Hid (S.size ≤ 2123) := by
          show _ ≤ _
          rw [← nums_length, NS.out]
          exact form_small G.out.symm (by have := HLA.out; omega)
        go_wp2_with fail
        refine TX.out.mono ?_
        rintro e w5 ⟨rfl, hb5⟩
        have B5 := Lib.hid (N5.out.trans (hb5.mono N5.out.size))
        clear hb5 TX L5 N5
        have q1 : ¬ 9223372036854775807 < S.size + t2.size := by have := SS.out; have := SX.out; omega
        have q2 : ¬ 9223372036854775807 < S.size + t2.size + 7 := by have := SS.out; have := SX.out; omega
        have NY : Hid (nums (S ++ t2 ++ ⟨#[47, 46, 46, 47, 46, 47, 47]⟩) = form (txts a) ++ text [nums x] ++ [47, 46, 46, 47, 46, 47, 47]) := by
          show _ = _
          rw [nums_app, nums_app, NS.out, NX.out]
          rfl
        have YS : Hid ((S ++ t2 ++ (⟨#[47, 46, 46, 47, 46, 47, 47]⟩ : ByteArray)).size ≤ 4194303) := by
          show _ ≤ _
          rw [← nums_length, NY.out, ← NS.out, ← NX.out, List.length_append, List.length_append, nums_length, nums_length]
          have := SS.out
          have := SX.out
          simp only [List.length_cons, List.length_nil]
          omega
        obtain ⟨y, hy⟩ : ∃ y, y = S ++ t2 ++ (⟨#[47, 46, 46, 47, 46, 47, 47]⟩ : ByteArray) := ⟨_, rfl⟩
        have EY := Lib.hid hy
        rw [← hy] at NY YS
        have PY := Lib.hid (parse_any w5 y YS.out (HE.out.below B5.out))
        clear hy
        rw [EY.out] at PY
        go_wp2_with fail
        refine PY.out.mono ?_
        rintro e w6 ⟨⟨A6, c6, D6, d6, r6, rfl, _, hs6, h6⟩, hb6⟩
        have B6 := Lib.hid (B5.out.trans (hb6.mono B5.out.size))
        rw [← EY.out, NY.out, dots_back (txts_bytes a) (nums_lt x) G.out.symm (by rw [txts_length]; have := HLA.out; omega) GX.out.symm] at h6
        simp only [Prod.mk.injEq] at h6
        obtain ⟨h6, rfl, rfl⟩ := h6
        obtain rfl := txts_inj h6
        have S6 := Lib.hid hs6
        clear h6 hs6 hb6 PY q1 q2 EY
        go_wp2_with fail
        go_loop [9, 10] (fun u i => ∃ (k : Nat) (U : ByteArray), k ≤ n + 1 ∧ i = .int .i64 k ∧ u = .string U ∧ Hid (nums U = form (txts a) ++ ups k)) (fun _ i => n + 1 - (intOf i).toNat)
        case atStart => exact ⟨0, S, by omega, rfl, rfl, by show _ = _; rw [NS.out]; exact (List.append_nil _).symm⟩
        case round =>
          obtain ⟨k, U, hk, rfl, rfl, NU⟩ := hrel
          have US : Hid (U.size ≤ 2200) := by
            show _ ≤ _
            rw [← nums_length, NU.out, ← NS.out, List.length_append, nums_length, ups_len]
            have := SS.out
            omega
          by_cases hlt : k ≤ n
          · have hz : (k : Int) ≤ (n : Int) := by omega
            have q1 : ¬ 9223372036854775807 < U.size + 5 := by have := US.out; omega
            have NU2 : Hid (nums (U ++ ⟨#[47, 37, 50, 101, 46]⟩) = form (txts a) ++ ups (k + 1)) := by
              show _ = _
              rw [nums_app, NU.out, List.append_assoc, ← ups_snoc]
              rfl
            go_wp2_with fail
            go_round
            case rel => exact ⟨k + 1, _, by omega, by go_num, rfl, NU2⟩
            case measure => simp [intOf]; omega
          · obtain rfl : k = n + 1 := by omega
            have hz : ¬ ((n + 1 : Nat) : Int) ≤ (n : Int) := by omega
            have PU := Lib.hid (parse_any w6 U (by have := US.out; omega) (HE.out.below B6.out))
            have DU : Hid (Uri.parse (nums U) = ([], false, 20)) := by
              show _ = _
              have h1 := dots_up (txts_bytes a) G.out.symm
              rw [txts_length, HLA.out] at h1
              rw [NU.out]
              exact h1
            have SM := Lib.hid (fun W (hW : Below w6.heap.size w6 W) => sam W A6 A a.length c6 n c a a (by have := HN.out; have := HLA.out; omega) HN.out (S6.out.below hW) (HA.out.below (B6.out.trans (hW.mono B6.out.size))))
            go_wp2_with fail
            refine PU.out.mono ?_
            rintro e w7 ⟨⟨A7, c7, D7, d7, r7, rfl, _, hs7, h7⟩, hb7⟩
            have B7 := Lib.hid (B6.out.trans (hb7.mono B6.out.size))
            have SN := Lib.hid (SM.out w7 hb7)
            rw [show decide True = true from rfl] at SN
            rw [DU.out] at h7
            simp only [Prod.mk.injEq] at h7
            obtain ⟨h7, rfl, rfl⟩ := h7
            clear h7 hs7 hb7 PU SM
            go_wp2_with fail
            refine SN.out.mono ?_
            rintro e w8 ⟨rfl, hb8⟩
            have B8 := Lib.hid (B7.out.trans (hb8.mono B7.out.size))
            clear hb8 SN
            go_wp2_with fail
            go_ret
            exact ⟨by simp, B8.out⟩
set_option maxRecDepth 100000 in
theorem opens {H : Type} {enc : TypeId × Value → H} {W : World} {base : Nat} {args : Array Value} {ds : List (DataW H)} {p : List MemPlace}
    (hval : ∀ (j : Nat) t v, Tryd.f6.params[j]? = some t → args[j]? = some v → Value.okWide Tryd.prog W .any base t v)
    (hA : DataW.TrodAll enc Tryd.prog W 0 (fun _ => true) true Tryd.f6.params.toList args.toList ds p) (hlt : ∀ x ∈ p, x.block < W.heap.size) (hk : Rows.uptoBulkAll ds ≤ 1048576) (hE : Env W) :
    Calls Tryd.prog 6 args W fun e W' => e = .returned (.bool true) ∧ Below W.heap.size W W' := by
  rw [Tryd.params6] at hA hval
  obtain ⟨v0, vs0, d0, ds0, p0, q0, hargs, rfl, rfl, h0, r0⟩ := trodAll_cons hA
  obtain ⟨v1, vs1, d1, ds1, p1, q1, rfl, rfl, rfl, h1, r1⟩ := trodAll_cons r0
  obtain ⟨rfl, rfl, rfl⟩ := trodAll_nil r1
  obtain rfl : args = #[v0, v1] := Array.toList_inj.1 hargs
  simp only [Rows.uptoBulkAll] at hk
  obtain ⟨A, n, c, a, rfl, ha, hc, hn, hs⟩ := open_list (hval 0 23 v0 rfl rfl) h0 (by omega)
  obtain ⟨s, rfl, rfl, rfl, ws⟩ := open_string Tryd.underlying9 (hval 1 9 v1 rfl rfl) h1
  have hb : s.data.toList.length = s.size := Array.length_toList
  simp only [Rows.uptoBulk] at hk
  exact walk W A n c a s ha hn hs (by omega) hE
theorem witness_row (os : Os) {H : Type} (enc : TypeId × Value → H) :
    (Rows.OpenSpec.upto Rows.uriDotsSpec).preRow enc Tryd.prog Tryd.f6 Rows.uriDotsUptoRow.domain false Rows.uriDotsUptoRow.laid ((startW os).forCall (fun _ _ => 0) ⟨#[], #[.slice none 0 0, .string ⟨#[]⟩], []⟩).memory #[.slice none 0 0, .string ⟨#[]⟩] := by
  have hw : (DataW.whole enc Tryd.prog ((startW os).forCall (fun _ _ => 0) ⟨#[], #[.slice none 0 0, .string ⟨#[]⟩], []⟩).memory Tryd.f6.params.toList Rows.uriDotsSpec.vars false (#[.slice none 0 0, .string ⟨#[]⟩] : Array Value).toList 8).map (fun x => (x.1, x.2.1)) =
      some ([.nil, .lit (.string [])], []) := by kernel_rfl
  obtain ⟨⟨x1, x2, x3⟩, hx, hx1⟩ := Option.map_eq_some_iff.1 hw
  simp only [Prod.mk.injEq] at hx1
  obtain ⟨rfl, rfl⟩ := hx1
  exact OpenSpec.preRow_of_cond 8 hx (by kernel_rfl) (fun k hk => by cases hk; kernel_rfl) (by kernel_rfl) (door_met os _)
set_option maxRecDepth 100000 in
theorem lifted (os : Os) (started : os.Started) (H : Type) (enc : TypeId × Value → H) (F : Stop.Interp) :
    ReturnsInHanded {} Tryd.checked os 6 .any ((Rows.OpenSpec.upto Rows.uriDotsSpec).preRow enc Tryd.prog Tryd.f6 Rows.uriDotsUptoRow.domain false Rows.uriDotsUptoRow.laid) (((Rows.OpenSpec.upto Rows.uriDotsSpec).at F).post enc Tryd.prog Tryd.f6 false true false false) := by
  refine returnsInHanded_of_row (C := Tryd.checked) (s := Rows.OpenSpec.upto Rows.uriDotsSpec) own started (by kernel_rfl) Tryd.func6
    (witness_row_atRef (enc := enc) (C := Tryd.checked) false (startW os) #[.slice none 0 0, .string ⟨#[]⟩] rfl (by kernel_rfl) (by kernel_rfl) (by kernel_rfl) (witness_row os enc)) ?_
  intro W base args ds gs before hval hW _ hcond _ hL _ _
  have hk := hcond _ rfl
  refine law_calls (s := Rows.uriDotsSpec) laidOut Tryd.underlying4 rfl (by rw [Tryd.params6]; exact of_decide_eq_true (by kernel_rfl)) rfl (fun ds h => by match ds, h with | [_, _], _ => rfl) hW ?_
  obtain ⟨rfl, p, hA, hlt⟩ := law_args rfl hW
  have hb : Rows.uptoBulkAll (ds ++ []) ≤ 1048576 := of_decide_eq_true hk
  rw [List.append_nil] at hb
  exact opens hval hA hlt hb (env_of hL)

theorem saidUpto : Rows.UriDotsUptoSaid :=
  OpenClaim.holds_of_cond 6 Tryd.f6 rfl rfl rfl rfl rfl rfl rfl ⟨rfl, rfl, rfl, rfl, rfl⟩ rfl rfl rfl rfl rfl (by kernel_rfl) Tryd.func6 (by kernel_rfl)
    (of_decide_eq_true (by kernel_rfl)) (by unfold Func.isWrapper; first | (rw [if_pos (by decide +kernel)]; kernel_rfl) | (rw [if_neg (by decide +kernel)]; exact ⟨rfl, rfl⟩))
    (fun os started H enc _ F => by rw [OpenClaim.pre_eq_preRow]; exact lifted os started H enc F)
theorem plain (f : FuncId) (fn : Func) (hf : Tryd.pinned.checked.prog.funcNamed "docket/docketlaw09.UriDots" = some f) (hfn : Tryd.pinned.checked.prog.funcs[f]? = some fn) :
    true = Tryd.pinned.checked.prog.looks [] ∧ ∀ (j : Nat) t, fn.params[j]? = some t → Tryd.pinned.checked.prog.wantsStandIn t = false := by
  obtain rfl : f = 6 := Option.some.inj ((show Tryd.prog.funcNamed "docket/docketlaw09.UriDots" = some 6 by kernel_rfl).symm.trans hf) |>.symm
  obtain rfl : fn = Tryd.f6 := (Option.some.inj (Tryd.func6.symm.trans hfn)).symm
  exact ⟨by kernel_rfl, fun j t ht => (of_decide_eq_true (p := ∀ t ∈ Tryd.f6.params.toList, Tryd.prog.wantsStandIn t = false) (by kernel_rfl)) t (Array.mem_toList_iff.2 (Array.mem_of_getElem? ht))⟩
theorem proved : Rows.UriDotsUptoCardSaid :=
  Claim7.holds_tied_plain_at .later [] _ _ _ _ saidUpto (fun _ h => by cases h) (by kernel_rfl) (fun _ h => by cases h) uriDotsUpto_row_tie rfl ⟨rfl, rfl⟩ (by kernel_rfl) rfl plain (by kernel_rfl)

end Go.Proofs.YtpnmddealjoiiaaDoor.uriDots
