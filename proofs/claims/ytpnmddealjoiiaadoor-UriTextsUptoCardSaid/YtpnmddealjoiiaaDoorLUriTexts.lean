/-
  UriTexts: Good, Text and Within answer as the chapter says, for every list of texts.
-/
import Derived.Test.YtpnmddealjoiiaaDoorU28
namespace Go.Proofs.YtpnmddealjoiiaaDoor.uriTexts
open Go.ChangeShapes Go.WideShapes Go.ChangeAt Go.RowKit Uri

set_option maxRecDepth 100000 in
set_option maxHeartbeats 1600000 in
theorem walk (w : World) (A B : Option Addr) (n c n' c' : Nat) (a b : List ByteArray) (ha : Strs w A n a) (hb : Strs w B n' b) (hc : n ≤ c) (hn : n ≤ 1048576) (hn' : n' ≤ 1048576) (hs : ∀ s ∈ a, s.size ≤ 1048576) (E : Env w) :
    Calls Tryd.prog 4 #[.slice A n c, .slice B n' c'] w fun e w' => e = .returned (.bool true) ∧ Below w.heap.size w w' := by
  have HE := Lib.hid E
  have FX := Lib.hid (fixed_any w E)
  have HA := Lib.hid ha
  have HB := Lib.hid hb
  have HS : Hid (∀ s ∈ a, s.size ≤ 4194304) := fun s h => by have := hs s h; omega
  have HC := Lib.hid hc
  have HN := Lib.hid hn
  have HN' := Lib.hid hn'
  clear E ha hb hs hc hn hn'
  go_enter Tryd.func4, Tryd.ntmps4
  go_wp2_with fail
  refine FX.out.mono ?_
  rintro e w1 ⟨rfl, hb1⟩
  have B1 := Lib.hid hb1
  have GA := Lib.hid (good_any w1 A n c a (by have := HN.out; omega) (HA.out.below hb1) HS.out (HE.out.below hb1))
  clear hb1 FX
  go_wp2_with fail
  refine GA.out.mono ?_
  rintro e w2 ⟨rfl, hb2⟩
  have B2 := Lib.hid (B1.out.trans (hb2.mono B1.out.size))
  have GB := Lib.hid (rgood_any w2 A n c a (by have := HN.out; omega) (HA.out.below B2.out) HS.out)
  clear hb2 GA
  obtain ⟨g, hg⟩ : ∃ g, g = good (txts a) := ⟨_, rfl⟩
  rw [← hg] at GB ⊢
  go_wp2_with fail
  refine GB.out.mono ?_
  rintro e w' ⟨rfl, rfl⟩
  have TA := Lib.hid (text_of w2 A n c a (by have := HN.out; omega) (HA.out.below B2.out) HS.out (HE.out.below B2.out))
  obtain ⟨t, ht⟩ : ∃ t, t = strB (text (txts a)) := ⟨_, rfl⟩
  rw [← ht] at TA
  clear GB
  go_wp2_with fail
  refine TA.out.mono ?_
  rintro e w3 ⟨rfl, hb3⟩
  have B3 := Lib.hid (B2.out.trans (hb3.mono B2.out.size))
  have TB := Lib.hid (rtext_any w3 A n c a (by have := HN.out; omega) (HA.out.below B3.out) HS.out)
  rw [← ht] at TB
  clear TA hb3
  go_wp2_with fail
  refine TB.out.mono ?_
  rintro e w4 ⟨rfl, hb4⟩
  have B4 := Lib.hid (B3.out.trans (hb4.mono B3.out.size))
  have WA := Lib.hid (within_any w4 A B n c n' c' a b (by have := HN'.out; omega) HC.out (HA.out.below B4.out) (HB.out.below B4.out))
  obtain ⟨x, hx⟩ : ∃ x, x = within (txts a) (txts b) := ⟨_, rfl⟩
  rw [← hx] at WA
  clear TB hb4
  go_wp2_with fail
  refine WA.out.mono ?_
  rintro e w5 ⟨rfl, k, hw5⟩
  have B5 : Hid (Below w.heap.size w w5) := by rw [hw5]; exact below_drewN B4.out k
  have WB := Lib.hid (rwithin_any w5 A B n c n' c' a b (by have := HN'.out; omega) HC.out (HA.out.below B5.out) (HB.out.below B5.out))
  rw [← hx] at WB
  clear WA hw5
  go_wp2_with fail
  refine WB.out.mono ?_
  rintro e w6 ⟨rfl, k, hw6⟩
  have B6 : Hid (Below w.heap.size w w6) := by rw [hw6]; exact below_drewN B5.out k
  clear WB hw6
  go_wp2_with fail
  go_ret
  exact ⟨by simp, B6.out⟩
set_option maxRecDepth 100000 in
theorem opens {H : Type} {enc : TypeId × Value → H} {W : World} {base : Nat} {args : Array Value} {ds : List (DataW H)} {p : List MemPlace}
    (hval : ∀ (j : Nat) t v, Tryd.f4.params[j]? = some t → args[j]? = some v → Value.okWide Tryd.prog W .any base t v)
    (hA : DataW.TrodAll enc Tryd.prog W 0 (fun _ => true) true Tryd.f4.params.toList args.toList ds p) (hlt : ∀ x ∈ p, x.block < W.heap.size) (hk : Rows.uptoBulkAll ds ≤ 1048576) (hE : Env W) :
    Calls Tryd.prog 4 args W fun e W' => e = .returned (.bool true) ∧ Below W.heap.size W W' := by
  rw [Tryd.params4] at hA hval
  obtain ⟨v0, vs0, d0, ds0, p0, q0, hargs, rfl, rfl, h0, r0⟩ := trodAll_cons hA
  obtain ⟨v1, vs1, d1, ds1, p1, q1, rfl, rfl, rfl, h1, r1⟩ := trodAll_cons r0
  obtain ⟨rfl, rfl, rfl⟩ := trodAll_nil r1
  obtain rfl : args = #[v0, v1] := Array.toList_inj.1 hargs
  simp only [Rows.uptoBulkAll] at hk
  obtain ⟨A, n, c, a, rfl, ha, hc, hn, hs⟩ := open_list (hval 0 23 v0 rfl rfl) h0 (by omega)
  obtain ⟨B, n', c', b, rfl, hb, hc', hn', hs'⟩ := open_list (hval 1 23 v1 rfl rfl) h1 (by omega)
  exact walk W A B n c n' c' a b ha hb hc hn hn' hs hE
theorem witness_row (os : Os) {H : Type} (enc : TypeId × Value → H) :
    (Rows.OpenSpec.upto Rows.uriTextsSpec).preRow enc Tryd.prog Tryd.f4 Rows.uriTextsUptoRow.domain false Rows.uriTextsUptoRow.laid ((startW os).forCall (fun _ _ => 0) ⟨#[], #[.slice none 0 0, .slice none 0 0], []⟩).memory #[.slice none 0 0, .slice none 0 0] := by
  have hw : (DataW.whole enc Tryd.prog ((startW os).forCall (fun _ _ => 0) ⟨#[], #[.slice none 0 0, .slice none 0 0], []⟩).memory Tryd.f4.params.toList Rows.uriTextsSpec.vars false (#[.slice none 0 0, .slice none 0 0] : Array Value).toList 8).map (fun x => (x.1, x.2.1)) =
      some ([.nil, .nil], []) := by kernel_rfl
  obtain ⟨⟨x1, x2, x3⟩, hx, hx1⟩ := Option.map_eq_some_iff.1 hw
  simp only [Prod.mk.injEq] at hx1
  obtain ⟨rfl, rfl⟩ := hx1
  exact OpenSpec.preRow_of_cond 8 hx (by kernel_rfl) (fun k hk => by cases hk; kernel_rfl) (by kernel_rfl) (door_met os _)
set_option maxRecDepth 100000 in
theorem lifted (os : Os) (started : os.Started) (H : Type) (enc : TypeId × Value → H) (F : Stop.Interp) :
    ReturnsInHanded {} Tryd.checked os 4 .any ((Rows.OpenSpec.upto Rows.uriTextsSpec).preRow enc Tryd.prog Tryd.f4 Rows.uriTextsUptoRow.domain false Rows.uriTextsUptoRow.laid) (((Rows.OpenSpec.upto Rows.uriTextsSpec).at F).post enc Tryd.prog Tryd.f4 false true false false) := by
  refine returnsInHanded_of_row (C := Tryd.checked) (s := Rows.OpenSpec.upto Rows.uriTextsSpec) own started (by kernel_rfl) Tryd.func4
    (witness_row_atRef (enc := enc) (C := Tryd.checked) false (startW os) #[.slice none 0 0, .slice none 0 0] rfl (by kernel_rfl) (by kernel_rfl) (by kernel_rfl) (witness_row os enc)) ?_
  intro W base args ds gs before hval hW _ hcond _ hL _ _
  have hk := hcond _ rfl
  refine law_calls (s := Rows.uriTextsSpec) laidOut Tryd.underlying4 rfl (by rw [Tryd.params4]; exact of_decide_eq_true (by kernel_rfl)) rfl (fun ds h => by match ds, h with | [_, _], _ => rfl) hW ?_
  obtain ⟨rfl, p, hA, hlt⟩ := law_args rfl hW
  have hb : Rows.uptoBulkAll (ds ++ []) ≤ 1048576 := of_decide_eq_true hk
  rw [List.append_nil] at hb
  exact opens hval hA hlt hb (env_of hL)

theorem saidUpto : Rows.UriTextsUptoSaid :=
  OpenClaim.holds_of_cond 4 Tryd.f4 rfl rfl rfl rfl rfl rfl rfl ⟨rfl, rfl, rfl, rfl, rfl⟩ rfl rfl rfl rfl rfl (by kernel_rfl) Tryd.func4 (by kernel_rfl)
    (of_decide_eq_true (by kernel_rfl)) (by unfold Func.isWrapper; first | (rw [if_pos (by decide +kernel)]; kernel_rfl) | (rw [if_neg (by decide +kernel)]; exact ⟨rfl, rfl⟩))
    (fun os started H enc _ F => by rw [OpenClaim.pre_eq_preRow]; exact lifted os started H enc F)
theorem plain (f : FuncId) (fn : Func) (hf : Tryd.pinned.checked.prog.funcNamed "docket/docketlaw09.UriTexts" = some f) (hfn : Tryd.pinned.checked.prog.funcs[f]? = some fn) :
    true = Tryd.pinned.checked.prog.looks [] ∧ ∀ (j : Nat) t, fn.params[j]? = some t → Tryd.pinned.checked.prog.wantsStandIn t = false := by
  obtain rfl : f = 4 := Option.some.inj ((show Tryd.prog.funcNamed "docket/docketlaw09.UriTexts" = some 4 by kernel_rfl).symm.trans hf) |>.symm
  obtain rfl : fn = Tryd.f4 := (Option.some.inj (Tryd.func4.symm.trans hfn)).symm
  exact ⟨by kernel_rfl, fun j t ht => (of_decide_eq_true (p := ∀ t ∈ Tryd.f4.params.toList, Tryd.prog.wantsStandIn t = false) (by kernel_rfl)) t (Array.mem_toList_iff.2 (Array.mem_of_getElem? ht))⟩
theorem proved : Rows.UriTextsUptoCardSaid :=
  Claim7.holds_tied_plain_at .later [] _ _ _ _ saidUpto (fun _ h => by cases h) (by kernel_rfl) (fun _ h => by cases h) uriTextsUpto_row_tie rfl ⟨rfl, rfl⟩ (by kernel_rfl) rfl plain (by kernel_rfl)

end Go.Proofs.YtpnmddealjoiiaaDoor.uriTexts
