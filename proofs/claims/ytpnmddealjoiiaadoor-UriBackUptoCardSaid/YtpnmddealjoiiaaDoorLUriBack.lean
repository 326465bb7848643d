/-
  UriBack: a path written is read as the path; a target read and written is read as the same.
-/
import Derived.Test.YtpnmddealjoiiaaDoorU29
namespace Go.Proofs.YtpnmddealjoiiaaDoor.uriBack
open Go.ChangeShapes Go.WideShapes Go.ChangeAt Go.RowKit Uri
open Go.ChangeMaps (open_string shut_string)

theorem text_none {D : List ByteArray} (h : good (txts D) = false) : strB (text (txts D)) = ⟨#[]⟩ := by
  have : text (txts D) = [] := by unfold text; rw [h]; rfl
  rw [this]
  rfl
set_option maxRecDepth 100000 in
set_option maxHeartbeats 3200000 in
theorem walk (w : World) (A : Option Addr) (n c : Nat) (a : List ByteArray) (s : ByteArray) (ha : Strs w A n a) (hn : n ≤ 1048576) (hz : ∀ x ∈ a, x.size ≤ 1048576) (hs : s.size ≤ 1048576) (E : Env w) :
    Calls Tryd.prog 5 #[.slice A n c, .string s] w fun e w' => e = .returned (.bool true) ∧ Below w.heap.size w w' := by
  have HE := Lib.hid E
  have FX := Lib.hid (fixed_any w E)
  have HA := Lib.hid ha
  have HN := Lib.hid hn
  have HZ : Hid (∀ x ∈ a, x.size ≤ 4194304) := fun x hx => by have := hz x hx; omega
  have HS := Lib.hid hs
  obtain ⟨g, hg⟩ : ∃ g, g = good (txts a) := ⟨_, rfl⟩
  have G := Lib.hid hg
  have HLA : Hid (a.length = n) := ha.1
  clear E ha hn hz hs hg
  go_enter Tryd.func5, Tryd.ntmps5
  go_wp2_with fail
  refine FX.out.mono ?_
  rintro e w1 ⟨rfl, hb1⟩
  have B1 := Lib.hid hb1
  have GA := Lib.hid (good_any w1 A n c a (by have := HN.out; omega) (HA.out.below hb1) HZ.out (HE.out.below hb1))
  rw [← G.out] at GA
  clear hb1 FX
  go_wp2_with fail
  refine GA.out.mono ?_
  rintro e w2 ⟨rfl, hb2⟩
  have B2 := Lib.hid (B1.out.trans (hb2.mono B1.out.size))
  clear hb2 GA
  go_upto_if 17 with fail
  go_cut [17] (fun x wc => Hid (Below w.heap.size w wc))
  case first =>
    have TA := Lib.hid (text_of w2 A n c a (by have := HN.out; omega) (HA.out.below B2.out) HZ.out (HE.out.below B2.out))
    cases g
    · have TN := Lib.hid (text_none G.out.symm)
      rw [TN.out] at TA
      go_wp2_with fail
      refine TA.out.mono ?_
      rintro e w3 ⟨rfl, hb3⟩
      have B3 := Lib.hid (B2.out.trans (hb3.mono B2.out.size))
      clear TA hb3
      go_wp2_with fail
      go_meet
      case rel => exact B3
    · have BK := Lib.hid (back a G.out.symm)
      have SZ := Lib.hid (back_size a)
      obtain ⟨t, ht⟩ : ∃ t, t = strB (text (txts a)) := ⟨_, rfl⟩
      rw [← ht] at TA BK SZ
      clear ht
      go_wp2_with fail
      refine TA.out.mono ?_
      rintro e w3 ⟨rfl, hb3⟩
      have B3 := Lib.hid (B2.out.trans (hb3.mono B2.out.size))
      have PA := Lib.hid (parse_any w3 t (by have := SZ.out; omega) (HE.out.below B3.out))
      clear TA hb3
      go_wp2_with fail
      refine PA.out.mono ?_
      rintro e w4 ⟨⟨A4, c4, D4, d4, r4, rfl, _, hs4, h4⟩, hb4⟩
      have B4 := Lib.hid (B3.out.trans (hb4.mono B3.out.size))
      have S4 := Lib.hid hs4
      rw [BK.out] at h4
      simp only [Prod.mk.injEq] at h4
      obtain ⟨h4, rfl, rfl⟩ := h4
      obtain rfl := txts_inj h4
      have SM := Lib.hid (sam w4 A4 A a.length c4 n c a a (by have := HN.out; have := HLA.out; omega) HN.out S4.out (HA.out.below B4.out))
      rw [decide_eq_true rfl] at SM
      have DN : Hid (decide (a = []) = ((n : Int) == 0)) := by
        show _ = _
        rw [Bool.eq_iff_iff, decide_eq_true_iff, beq_iff_eq, ← HLA.out]
        rw [List.length_eq_zero_iff.symm]
        omega
      rw [DN.out]
      clear h4 hs4 hb4 PA
      go_wp2_with fail
      refine SM.out.mono ?_
      rintro e w5 ⟨rfl, hb5⟩
      have B5 := Lib.hid (B4.out.trans (hb5.mono B4.out.size))
      clear SM hb5
      go_wp2_with fail
      go_meet
      case rel => exact B5
  case rest =>
    have B6 := Lib.hid hcut.out
    have PB := Lib.hid (parse_any wc s (by have := HS.out; omega) (HE.out.below B6.out))
    clear hcut
    go_wp2_with fail
    refine PB.out.mono ?_
    rintro e w7 ⟨⟨A7, c7, D7, d7, r7, rfl, hc7, hs7, h7⟩, hb7⟩
    have B7 := Lib.hid (B6.out.trans (hb7.mono B6.out.size))
    have S7 := Lib.hid hs7
    have C7 := Lib.hid hc7
    have H7 := Lib.hid h7
    have PG := parse_good (nums_lt s)
    rw [h7] at PG
    clear hc7 hs7 h7 hb7 PB
    rcases PG with ⟨e1, hgd, _⟩ | hbad | hbad
    · have e1 : r7 = 0 := e1
      subst e1
      have GD : Hid (good (txts D7) = true) := hgd
      have L7 : Hid (D7.length ≤ 12) := by
        have := (good_parts hgd).2
        rw [txts_length] at this
        exact this
      have Z7 : Hid (∀ x ∈ D7, x.size ≤ 4194304) := fun x hx => by
        have := (seg_parts ((good_parts hgd).1 (nums x) (List.mem_map.2 ⟨x, hx, rfl⟩))).2.1
        rw [nums_length] at this
        omega
      clear hgd
      have TA := Lib.hid (text_of w7 A7 D7.length c7 D7 (by have := L7.out; omega) S7.out Z7.out (HE.out.below B7.out))
      have BK := Lib.hid (back D7 GD.out)
      have SZ := Lib.hid (back_size D7)
      obtain ⟨t, ht⟩ : ∃ t, t = strB (text (txts D7)) := ⟨_, rfl⟩
      rw [← ht] at TA BK SZ
      clear ht
      go_wp2_with fail
      refine TA.out.mono ?_
      rintro e w8 ⟨rfl, hb8⟩
      have B8 := Lib.hid (B7.out.trans (hb8.mono B7.out.size))
      have S8 := Lib.hid (S7.out.below hb8)
      have PC := Lib.hid (parse_any w8 t (by have := SZ.out; omega) (HE.out.below B8.out))
      clear TA hb8
      go_wp2_with fail
      refine PC.out.mono ?_
      rintro e w9 ⟨⟨A9, c9, D9, d9, r9, rfl, hc9, hs9, h9⟩, hb9⟩
      have B9 := Lib.hid (B8.out.trans (hb9.mono B8.out.size))
      have S9 := Lib.hid (S8.out.below hb9)
      have T9 := Lib.hid hs9
      rw [BK.out] at h9
      simp only [Prod.mk.injEq] at h9
      obtain ⟨h9, rfl, rfl⟩ := h9
      obtain rfl := txts_inj h9
      have GA := Lib.hid (good_any w9 A7 D7.length c7 D7 (by have := L7.out; omega) S9.out Z7.out (HE.out.below B9.out))
      rw [GD.out] at GA
      clear h9 hs9 hb9 PC hc9
      go_wp2_with fail
      refine GA.out.mono ?_
      rintro e wA ⟨rfl, hbA⟩
      have BA := Lib.hid (B9.out.trans (hbA.mono B9.out.size))
      have SA := Lib.hid (S9.out.below hbA)
      have TA := Lib.hid (T9.out.below hbA)
      have SM := Lib.hid (sam wA A7 A9 D7.length c7 D7.length c9 D7 D7 (by have := L7.out; omega) (by have := L7.out; omega) SA.out TA.out)
      rw [decide_eq_true rfl] at SM
      clear GA hbA
      go_wp2_with fail
      refine SM.out.mono ?_
      rintro e wB ⟨rfl, hbB⟩
      have BB := Lib.hid (BA.out.trans (hbB.mono BA.out.size))
      have SB := Lib.hid (SA.out.below hbB)
      have TB := Lib.hid (TA.out.below hbB)
      have WA := Lib.hid (wit wB A7 A9 D7.length c7 D7.length c9 D7 D7 (by have := L7.out; omega) C7.out SB.out TB.out)
      rw [within_refl] at WA
      clear SM hbB
      go_wp2_with fail
      refine WA.out.mono ?_
      rintro e wC ⟨rfl, hbC⟩
      have BC := Lib.hid (BB.out.trans (hbC.mono BB.out.size))
      have SC := Lib.hid (SB.out.below hbC)
      have WB := Lib.hid (wit wC A7 none D7.length c7 0 0 D7 [] (by omega) C7.out SC.out (Strs.nil _ _))
      rw [show txts ([] : List ByteArray) = [] from rfl, within_nil] at WB
      clear WA hbC
      go_wp2_with fail
      refine WB.out.mono ?_
      rintro e wD ⟨rfl, hbD⟩
      have BD := Lib.hid (BC.out.trans (hbD.mono BC.out.size))
      clear WB hbD
      go_wp2_with fail
      go_ret
      exact ⟨rfl, BD.out⟩
    · simp only [Prod.mk.injEq] at hbad
      obtain ⟨hD, rfl, rfl⟩ := hbad
      obtain rfl : D7 = [] := List.map_eq_nil_iff.1 hD
      clear hD
      go_wp2_with fail
      go_ret
      exact ⟨by simp, B7.out⟩
    · simp only [Prod.mk.injEq] at hbad
      obtain ⟨hD, rfl, rfl⟩ := hbad
      obtain rfl : D7 = [] := List.map_eq_nil_iff.1 hD
      clear hD
      go_wp2_with fail
      go_ret
      exact ⟨by simp, B7.out⟩
set_option maxRecDepth 100000 in
theorem opens {H : Type} {enc : TypeId × Value → H} {W : World} {base : Nat} {args : Array Value} {ds : List (DataW H)} {p : List MemPlace}
    (hval : ∀ (j : Nat) t v, Tryd.f5.params[j]? = some t → args[j]? = some v → Value.okWide Tryd.prog W .any base t v)
    (hA : DataW.TrodAll enc Tryd.prog W 0 (fun _ => true) true Tryd.f5.params.toList args.toList ds p) (hlt : ∀ x ∈ p, x.block < W.heap.size) (hk : Rows.uptoBulkAll ds ≤ 1048576) (hE : Env W) :
    Calls Tryd.prog 5 args W fun e W' => e = .returned (.bool true) ∧ Below W.heap.size W W' := by
  rw [Tryd.params5] at hA hval
  obtain ⟨v0, vs0, d0, ds0, p0, q0, hargs, rfl, rfl, h0, r0⟩ := trodAll_cons hA
  obtain ⟨v1, vs1, d1, ds1, p1, q1, rfl, rfl, rfl, h1, r1⟩ := trodAll_cons r0
  obtain ⟨rfl, rfl, rfl⟩ := trodAll_nil r1
  obtain rfl : args = #[v0, v1] := Array.toList_inj.1 hargs
  simp only [Rows.uptoBulkAll] at hk
  obtain ⟨A, n, c, a, rfl, ha, hc, hn, hs⟩ := open_list (hval 0 23 v0 rfl rfl) h0 (by omega)
  obtain ⟨s, rfl, rfl, rfl, ws⟩ := open_string Tryd.underlying9 (hval 1 9 v1 rfl rfl) h1
  have hb : s.data.toList.length = s.size := Array.length_toList
  simp only [Rows.uptoBulk] at hk
  exact walk W A n c a s ha hn hs (by omega) hE
theorem witness_row (os : Os) {H : Type} (enc : TypeId × Value → H) :
    (Rows.OpenSpec.upto Rows.uriBackSpec).preRow enc Tryd.prog Tryd.f5 Rows.uriBackUptoRow.domain false Rows.uriBackUptoRow.laid ((startW os).forCall (fun _ _ => 0) ⟨#[], #[.slice none 0 0, .string ⟨#[]⟩], []⟩).memory #[.slice none 0 0, .string ⟨#[]⟩] := by
  have hw : (DataW.whole enc Tryd.prog ((startW os).forCall (fun _ _ => 0) ⟨#[], #[.slice none 0 0, .string ⟨#[]⟩], []⟩).memory Tryd.f5.params.toList Rows.uriBackSpec.vars false (#[.slice none 0 0, .string ⟨#[]⟩] : Array Value).toList 8).map (fun x => (x.1, x.2.1)) =
      some ([.nil, .lit (.string [])], []) := by kernel_rfl
  obtain ⟨⟨x1, x2, x3⟩, hx, hx1⟩ := Option.map_eq_some_iff.1 hw
  simp only [Prod.mk.injEq] at hx1
  obtain ⟨rfl, rfl⟩ := hx1
  exact OpenSpec.preRow_of_cond 8 hx (by kernel_rfl) (fun k hk => by cases hk; kernel_rfl) (by kernel_rfl) (door_met os _)
set_option maxRecDepth 100000 in
theorem lifted (os : Os) (started : os.Started) (H : Type) (enc : TypeId × Value → H) (F : Stop.Interp) :
    ReturnsInHanded {} Tryd.checked os 5 .any ((Rows.OpenSpec.upto Rows.uriBackSpec).preRow enc Tryd.prog Tryd.f5 Rows.uriBackUptoRow.domain false Rows.uriBackUptoRow.laid) (((Rows.OpenSpec.upto Rows.uriBackSpec).at F).post enc Tryd.prog Tryd.f5 false true false false) := by
  refine returnsInHanded_of_row (C := Tryd.checked) (s := Rows.OpenSpec.upto Rows.uriBackSpec) own started (by kernel_rfl) Tryd.func5
    (witness_row_atRef (enc := enc) (C := Tryd.checked) false (startW os) #[.slice none 0 0, .string ⟨#[]⟩] rfl (by kernel_rfl) (by kernel_rfl) (by kernel_rfl) (witness_row os enc)) ?_
  intro W base args ds gs before hval hW _ hcond _ hL _ _
  have hk := hcond _ rfl
  refine law_calls (s := Rows.uriBackSpec) laidOut Tryd.underlying4 rfl (by rw [Tryd.params5]; exact of_decide_eq_true (by kernel_rfl)) rfl (fun ds h => by match ds, h with | [_, _], _ => rfl) hW ?_
  obtain ⟨rfl, p, hA, hlt⟩ := law_args rfl hW
  have hb : Rows.uptoBulkAll (ds ++ []) ≤ 1048576 := of_decide_eq_true hk
  rw [List.append_nil] at hb
  exact opens hval hA hlt hb (env_of hL)

theorem saidUpto : Rows.UriBackUptoSaid :=
  OpenClaim.holds_of_cond 5 Tryd.f5 rfl rfl rfl rfl rfl rfl rfl ⟨rfl, rfl, rfl, rfl, rfl⟩ rfl rfl rfl rfl rfl (by kernel_rfl) Tryd.func5 (by kernel_rfl)
    (of_decide_eq_true (by kernel_rfl)) (by unfold Func.isWrapper; first | (rw [if_pos (by decide +kernel)]; kernel_rfl) | (rw [if_neg (by decide +kernel)]; exact ⟨rfl, rfl⟩))
    (fun os started H enc _ F => by rw [OpenClaim.pre_eq_preRow]; exact lifted os started H enc F)
theorem plain (f : FuncId) (fn : Func) (hf : Tryd.pinned.checked.prog.funcNamed "docket/docketlaw09.UriBack" = some f) (hfn : Tryd.pinned.checked.prog.funcs[f]? = some fn) :
    true = Tryd.pinned.checked.prog.looks [] ∧ ∀ (j : Nat) t, fn.params[j]? = some t → Tryd.pinned.checked.prog.wantsStandIn t = false := by
  obtain rfl : f = 5 := Option.some.inj ((show Tryd.prog.funcNamed "docket/docketlaw09.UriBack" = some 5 by kernel_rfl).symm.trans hf) |>.symm
  obtain rfl : fn = Tryd.f5 := (Option.some.inj (Tryd.func5.symm.trans hfn)).symm
  exact ⟨by kernel_rfl, fun j t ht => (of_decide_eq_true (p := ∀ t ∈ Tryd.f5.params.toList, Tryd.prog.wantsStandIn t = false) (by kernel_rfl)) t (Array.mem_toList_iff.2 (Array.mem_of_getElem? ht))⟩
theorem proved : Rows.UriBackUptoCardSaid :=
  Claim7.holds_tied_plain_at .later [] _ _ _ _ saidUpto (fun _ h => by cases h) (by kernel_rfl) (fun _ h => by cases h) uriBackUpto_row_tie rfl ⟨rfl, rfl⟩ (by kernel_rfl) rfl plain (by kernel_rfl)

end Go.Proofs.YtpnmddealjoiiaaDoor.uriBack
