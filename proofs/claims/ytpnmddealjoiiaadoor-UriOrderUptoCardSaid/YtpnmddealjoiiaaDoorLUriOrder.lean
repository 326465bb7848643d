/-
  UriOrder: to stand within is an order.
-/
import Derived.Test.YtpnmddealjoiiaaDoorU29
namespace Go.Proofs.YtpnmddealjoiiaaDoor.uriOrder
open Go.ChangeShapes Go.WideShapes Go.ChangeAt Go.RowKit Uri

set_option maxRecDepth 100000 in
set_option maxHeartbeats 1600000 in
theorem walk (w : World) (A B C : Option Addr) (n c n' c' n'' c'' : Nat) (a b l : List ByteArray) (ha : Strs w A n a) (hb : Strs w B n' b) (hl : Strs w C n'' l) (hc : n ≤ c) (hc' : n' ≤ c') (hn : n ≤ 1048576) (hn' : n' ≤ 1048576) (hn'' : n'' ≤ 1048576) (E : Env w) :
    Calls Tryd.prog 7 #[.slice A n c, .slice B n' c', .slice C n'' c''] w fun e w' => e = .returned (.bool true) ∧ Below w.heap.size w w' := by
  have HE := Lib.hid E
  have FX := Lib.hid (fixed_any w E)
  have HA := Lib.hid ha
  have HB := Lib.hid hb
  have HL := Lib.hid hl
  have HCA := Lib.hid hc
  have HCB := Lib.hid hc'
  have HNA := Lib.hid hn
  have HNB := Lib.hid hn'
  have HNC := Lib.hid hn''
  obtain ⟨x, hx⟩ : ∃ x, x = within (txts a) (txts b) := ⟨_, rfl⟩
  obtain ⟨y, hy⟩ : ∃ y, y = within (txts b) (txts l) := ⟨_, rfl⟩
  obtain ⟨z, hz⟩ : ∃ z, z = within (txts a) (txts l) := ⟨_, rfl⟩
  obtain ⟨v, hv⟩ : ∃ v, v = within (txts b) (txts a) := ⟨_, rfl⟩
  have EX := Lib.hid hx
  have EY := Lib.hid hy
  have EZ := Lib.hid hz
  have EV := Lib.hid hv
  have XYZ : Hid (x = true → y = true → z = true) := fun h1 h2 => by rw [hz]; exact within_trans (hx ▸ h1) (hy ▸ h2)
  have XV : Hid (x = true → v = true → decide (a = b) = true) := fun h1 h2 => decide_eq_true (txts_inj (within_anti (hx ▸ h1) (hv ▸ h2)))
  clear E ha hb hl hc hc' hn hn' hn'' hx hy hz hv
  go_enter Tryd.func7, Tryd.ntmps7
  go_wp2_with fail
  refine FX.out.mono ?_
  rintro e w1 ⟨rfl, hb1⟩
  have B1 := Lib.hid hb1
  have W1 := Lib.hid (wit w1 A A n c n c a a HNA.out HCA.out (HA.out.below B1.out) (HA.out.below B1.out))
  rw [within_refl] at W1
  clear hb1 FX
  go_wp2_with fail
  refine W1.out.mono ?_
  rintro e w2 ⟨rfl, hb2⟩
  have B2 := Lib.hid (B1.out.trans (hb2.mono B1.out.size))
  have W2 := Lib.hid (wit w2 A B n c n' c' a b HNB.out HCA.out (HA.out.below B2.out) (HB.out.below B2.out))
  rw [← EX.out] at W2
  clear hb2 W1
  go_wp2_with fail
  refine W2.out.mono ?_
  rintro e w3 ⟨rfl, hb3⟩
  have B3 := Lib.hid (B2.out.trans (hb3.mono B2.out.size))
  clear hb3 W2
  cases x
  · clear XYZ XV
    have V1 := Lib.hid (wit w3 A B n c n' c' a b HNB.out HCA.out (HA.out.below B3.out) (HB.out.below B3.out))
    rw [← EX.out] at V1
    go_wp2_with fail
    refine V1.out.mono ?_
    rintro e u1 ⟨rfl, hu1⟩
    have D1 := Lib.hid (B3.out.trans (hu1.mono B3.out.size))
    clear V1 hu1
    go_wp2_with fail
    go_ret
    exact ⟨rfl, D1.out⟩
  · have W3 := Lib.hid (wit w3 B C n' c' n'' c'' b l HNC.out HCB.out (HB.out.below B3.out) (HL.out.below B3.out))
    rw [← EY.out] at W3
    go_wp2_with fail
    refine W3.out.mono ?_
    rintro e w4 ⟨rfl, hb4⟩
    have B4 := Lib.hid (B3.out.trans (hb4.mono B3.out.size))
    clear hb4 W3
    cases y
    · clear XYZ
      have V1 := Lib.hid (wit w4 A B n c n' c' a b HNB.out HCA.out (HA.out.below B4.out) (HB.out.below B4.out))
      rw [← EX.out] at V1
      go_wp2_with fail
      refine V1.out.mono ?_
      rintro e u1 ⟨rfl, hu1⟩
      have D1 := Lib.hid (B4.out.trans (hu1.mono B4.out.size))
      clear V1 hu1
      have V2 := Lib.hid (wit u1 B A n' c' n c b a HNA.out HCB.out (HB.out.below D1.out) (HA.out.below D1.out))
      rw [← EV.out] at V2
      go_wp2_with fail
      refine V2.out.mono ?_
      rintro e u2 ⟨rfl, hu2⟩
      have D2 := Lib.hid (D1.out.trans (hu2.mono D1.out.size))
      clear V2 hu2
      cases v
      · go_wp2_with fail
        go_ret
        exact ⟨rfl, D2.out⟩
      · have SM := Lib.hid (sam u2 A B n c n' c' a b HNA.out HNB.out (HA.out.below D2.out) (HB.out.below D2.out))
        rw [XV.out (by first | rfl | trivial) (by first | rfl | trivial)] at SM
        go_wp2_with fail
        refine SM.out.mono ?_
        rintro e u3 ⟨rfl, hu3⟩
        have D3 := Lib.hid (D2.out.trans (hu3.mono D2.out.size))
        clear SM hu3
        go_wp2_with fail
        go_ret
        exact ⟨rfl, D3.out⟩
    · have ZT := Lib.hid (XYZ.out (by first | rfl | trivial) (by first | rfl | trivial))
      have W4 := Lib.hid (wit w4 A C n c n'' c'' a l HNC.out HCA.out (HA.out.below B4.out) (HL.out.below B4.out))
      rw [← EZ.out, ZT.out] at W4
      clear XYZ ZT
      go_wp2_with fail
      refine W4.out.mono ?_
      rintro e w5 ⟨rfl, hb5⟩
      have B5 := Lib.hid (B4.out.trans (hb5.mono B4.out.size))
      clear hb5 W4
      have V1 := Lib.hid (wit w5 A B n c n' c' a b HNB.out HCA.out (HA.out.below B5.out) (HB.out.below B5.out))
      rw [← EX.out] at V1
      go_wp2_with fail
      refine V1.out.mono ?_
      rintro e u1 ⟨rfl, hu1⟩
      have D1 := Lib.hid (B5.out.trans (hu1.mono B5.out.size))
      clear V1 hu1
      have V2 := Lib.hid (wit u1 B A n' c' n c b a HNA.out HCB.out (HB.out.below D1.out) (HA.out.below D1.out))
      rw [← EV.out] at V2
      go_wp2_with fail
      refine V2.out.mono ?_
      rintro e u2 ⟨rfl, hu2⟩
      have D2 := Lib.hid (D1.out.trans (hu2.mono D1.out.size))
      clear V2 hu2
      cases v
      · go_wp2_with fail
        go_ret
        exact ⟨rfl, D2.out⟩
      · have SM := Lib.hid (sam u2 A B n c n' c' a b HNA.out HNB.out (HA.out.below D2.out) (HB.out.below D2.out))
        rw [XV.out (by first | rfl | trivial) (by first | rfl | trivial)] at SM
        go_wp2_with fail
        refine SM.out.mono ?_
        rintro e u3 ⟨rfl, hu3⟩
        have D3 := Lib.hid (D2.out.trans (hu3.mono D2.out.size))
        clear SM hu3
        go_wp2_with fail
        go_ret
        exact ⟨rfl, D3.out⟩
set_option maxRecDepth 100000 in
theorem opens {H : Type} {enc : TypeId × Value → H} {W : World} {base : Nat} {args : Array Value} {ds : List (DataW H)} {p : List MemPlace}
    (hval : ∀ (j : Nat) t v, Tryd.f7.params[j]? = some t → args[j]? = some v → Value.okWide Tryd.prog W .any base t v)
    (hA : DataW.TrodAll enc Tryd.prog W 0 (fun _ => true) true Tryd.f7.params.toList args.toList ds p) (hlt : ∀ x ∈ p, x.block < W.heap.size) (hk : Rows.uptoBulkAll ds ≤ 1048576) (hE : Env W) :
    Calls Tryd.prog 7 args W fun e W' => e = .returned (.bool true) ∧ Below W.heap.size W W' := by
  rw [Tryd.params7] at hA hval
  obtain ⟨v0, vs0, d0, ds0, p0, q0, hargs, rfl, rfl, h0, r0⟩ := trodAll_cons hA
  obtain ⟨v1, vs1, d1, ds1, p1, q1, rfl, rfl, rfl, h1, r1⟩ := trodAll_cons r0
  obtain ⟨v2, vs2, d2, ds2, p2, q2, rfl, rfl, rfl, h2, r2⟩ := trodAll_cons r1
  obtain ⟨rfl, rfl, rfl⟩ := trodAll_nil r2
  obtain rfl : args = #[v0, v1, v2] := Array.toList_inj.1 hargs
  simp only [Rows.uptoBulkAll] at hk
  obtain ⟨A, n, c, a, rfl, ha, hc, hn, hs⟩ := open_list (hval 0 23 v0 rfl rfl) h0 (by omega)
  obtain ⟨B, n', c', b, rfl, hb, hc', hn', hs'⟩ := open_list (hval 1 23 v1 rfl rfl) h1 (by omega)
  obtain ⟨C, n'', c'', l, rfl, hl, hc'', hn'', hs''⟩ := open_list (hval 2 23 v2 rfl rfl) h2 (by omega)
  exact walk W A B C n c n' c' n'' c'' a b l ha hb hl hc hc' hn hn' hn'' hE
theorem witness_row (os : Os) {H : Type} (enc : TypeId × Value → H) :
    (Rows.OpenSpec.upto Rows.uriOrderSpec).preRow enc Tryd.prog Tryd.f7 Rows.uriOrderUptoRow.domain false Rows.uriOrderUptoRow.laid ((startW os).forCall (fun _ _ => 0) ⟨#[], #[.slice none 0 0, .slice none 0 0, .slice none 0 0], []⟩).memory #[.slice none 0 0, .slice none 0 0, .slice none 0 0] := by
  have hw : (DataW.whole enc Tryd.prog ((startW os).forCall (fun _ _ => 0) ⟨#[], #[.slice none 0 0, .slice none 0 0, .slice none 0 0], []⟩).memory Tryd.f7.params.toList Rows.uriOrderSpec.vars false (#[.slice none 0 0, .slice none 0 0, .slice none 0 0] : Array Value).toList 8).map (fun x => (x.1, x.2.1)) =
      some ([.nil, .nil, .nil], []) := by kernel_rfl
  obtain ⟨⟨x1, x2, x3⟩, hx, hx1⟩ := Option.map_eq_some_iff.1 hw
  simp only [Prod.mk.injEq] at hx1
  obtain ⟨rfl, rfl⟩ := hx1
  exact OpenSpec.preRow_of_cond 8 hx (by kernel_rfl) (fun k hk => by cases hk; kernel_rfl) (by kernel_rfl) (door_met os _)
set_option maxRecDepth 100000 in
theorem lifted (os : Os) (started : os.Started) (H : Type) (enc : TypeId × Value → H) (F : Stop.Interp) :
    ReturnsInHanded {} Tryd.checked os 7 .any ((Rows.OpenSpec.upto Rows.uriOrderSpec).preRow enc Tryd.prog Tryd.f7 Rows.uriOrderUptoRow.domain false Rows.uriOrderUptoRow.laid) (((Rows.OpenSpec.upto Rows.uriOrderSpec).at F).post enc Tryd.prog Tryd.f7 false true false false) := by
  refine returnsInHanded_of_row (C := Tryd.checked) (s := Rows.OpenSpec.upto Rows.uriOrderSpec) own started (by kernel_rfl) Tryd.func7
    (witness_row_atRef (enc := enc) (C := Tryd.checked) false (startW os) #[.slice none 0 0, .slice none 0 0, .slice none 0 0] rfl (by kernel_rfl) (by kernel_rfl) (by kernel_rfl) (witness_row os enc)) ?_
  intro W base args ds gs before hval hW _ hcond _ hL _ _
  have hk := hcond _ rfl
  refine law_calls (s := Rows.uriOrderSpec) laidOut Tryd.underlying4 rfl (by rw [Tryd.params7]; exact of_decide_eq_true (by kernel_rfl)) rfl (fun ds h => by match ds, h with | [_, _, _], _ => rfl) hW ?_
  obtain ⟨rfl, p, hA, hlt⟩ := law_args rfl hW
  have hb : Rows.uptoBulkAll (ds ++ []) ≤ 1048576 := of_decide_eq_true hk
  rw [List.append_nil] at hb
  exact opens hval hA hlt hb (env_of hL)

theorem saidUpto : Rows.UriOrderUptoSaid :=
  OpenClaim.holds_of_cond 7 Tryd.f7 rfl rfl rfl rfl rfl rfl rfl ⟨rfl, rfl, rfl, rfl, rfl⟩ rfl rfl rfl rfl rfl (by kernel_rfl) Tryd.func7 (by kernel_rfl)
    (of_decide_eq_true (by kernel_rfl)) (by unfold Func.isWrapper; first | (rw [if_pos (by decide +kernel)]; kernel_rfl) | (rw [if_neg (by decide +kernel)]; exact ⟨rfl, rfl⟩))
    (fun os started H enc _ F => by rw [OpenClaim.pre_eq_preRow]; exact lifted os started H enc F)
theorem plain (f : FuncId) (fn : Func) (hf : Tryd.pinned.checked.prog.funcNamed "docket/docketlaw09.UriOrder" = some f) (hfn : Tryd.pinned.checked.prog.funcs[f]? = some fn) :
    true = Tryd.pinned.checked.prog.looks [] ∧ ∀ (j : Nat) t, fn.params[j]? = some t → Tryd.pinned.checked.prog.wantsStandIn t = false := by
  obtain rfl : f = 7 := Option.some.inj ((show Tryd.prog.funcNamed "docket/docketlaw09.UriOrder" = some 7 by kernel_rfl).symm.trans hf) |>.symm
  obtain rfl : fn = Tryd.f7 := (Option.some.inj (Tryd.func7.symm.trans hfn)).symm
  exact ⟨by kernel_rfl, fun j t ht => (of_decide_eq_true (p := ∀ t ∈ Tryd.f7.params.toList, Tryd.prog.wantsStandIn t = false) (by kernel_rfl)) t (Array.mem_toList_iff.2 (Array.mem_of_getElem? ht))⟩
theorem proved : Rows.UriOrderUptoCardSaid :=
  Claim7.holds_tied_plain_at .later [] _ _ _ _ saidUpto (fun _ h => by cases h) (by kernel_rfl) (fun _ h => by cases h) uriOrderUpto_row_tie rfl ⟨rfl, rfl⟩ (by kernel_rfl) rfl plain (by kernel_rfl)

end Go.Proofs.YtpnmddealjoiiaaDoor.uriOrder
