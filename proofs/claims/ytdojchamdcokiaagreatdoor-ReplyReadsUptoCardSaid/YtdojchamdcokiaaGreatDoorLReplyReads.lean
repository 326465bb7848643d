/-
  ReplyReads: what is read off any bytes is a good response, and just these bytes are its form (where all that comes in is of bulk at most 1048576).
-/
import Derived.Test.YtdojchamdcokiaaGreatDoorR24
namespace Go.Proofs.YtdojchamdcokiaaGreatDoor.replyReads
open Go.ChangeShapes Go.WideShapes Go.ChangeAt Go.RowKit Reply

theorem dec_mono : ∀ (k j : Nat), j ≤ k → (Lib.decDigits j).length ≤ (Lib.decDigits k).length := by
  intro k
  induction k using Nat.strongRecOn with
  | _ k ih =>
    intro j hj
    by_cases hk : k / 10 = 0
    · rw [dec_last hk, dec_last (by omega : j / 10 = 0)]
      exact Nat.le_refl _
    · rw [dec_more hk]
      by_cases hj10 : j / 10 = 0
      · rw [dec_last hj10]; simp
      · rw [dec_more hj10]
        have := ih (k / 10) (by omega) (j / 10) (by omega)
        simp only [List.length_append, List.length_singleton]
        omega
theorem top_mono (r : Rs) {j k : Nat} (h : j ≤ k) : (top r j).length ≤ (top r k).length := by
  have := dec_mono k j h
  unfold top lenLine
  rw [itoa_nat, itoa_nat]
  simp only [List.length_append]
  by_cases g : r.status = 204
  · rw [if_pos g, if_pos g]; exact Nat.le_refl _
  · rw [if_neg g, if_neg g]
    simp only [List.length_append]
    omega
theorem head_le {l : List (B × B)} {h : B × B} (hm : h ∈ l) : h.1.length + h.2.length ≤ (hdrLines l).length := by
  induction l with
  | nil => cases hm
  | cons x r ih =>
    have e : hdrLines (x :: r) = hdrLine x ++ hdrLines r := by unfold hdrLines; rw [List.flatMap_cons]
    rw [e, List.length_append]
    rcases List.mem_cons.1 hm with rfl | hm
    · rw [hdrLine_len]; omega
    · have := ih hm; omega
theorem heads_le (r : Rs) (k : Nat) : (hdrLines r.headers).length ≤ (top r k).length := by
  unfold top
  simp only [List.length_append]
  omega
theorem fit_of {r : Rs} {l z : B} {k : Nat} (g : good r = true) (e : l = top r k ++ z) (hl : l.length ≤ 1048576) : RFit r := by
  obtain ⟨h1, h2, h3, h4, h5⟩ := good_parts g
  obtain ⟨s0, s1, _, _⟩ := status_is h1
  have he := congrArg List.length e
  rw [List.length_append] at he
  have a := heads_le r k
  exact ⟨by omega, by omega, by omega, by omega, fun h hm => by have := head_le hm; omega⟩
theorem same_zero : sameR zeroR zeroR = true := by decide
theorem take_app (a z : B) : (a ++ z).take a.length = a := by simp
set_option maxRecDepth 100000 in
set_option maxHeartbeats 8000000 in
theorem walk (w : World) (l : B) (hd : Bool) (hl : l.length ≤ 1048576) (E : Env w) :
    Calls Tryz.prog 4 #[.string (S l), .bool hd] w fun e w' => e = .returned (.bool true) ∧ Below w.heap.size w w' := by
  have HE := Lib.hid E
  have FX := Lib.hid (fixed_any w E)
  have RD := Lib.hid (fun u (k : Env u) => fread_any u k l hd (by omega))
  obtain ⟨s, hs⟩ : ∃ x, x = S l := ⟨_, rfl⟩
  rw [← hs] at RD ⊢
  have HS := Lib.hid hs
  have ssz : s.size = l.length := by rw [hs, S_size]
  have HSZ := Lib.hid ssz
  have HL := Lib.hid hl
  clear hs E ssz hl
  go_enter Tryz.func4, Tryz.ntmps4
  go_wp2_with fail
  refine FX.out.mono ?_
  rintro e w1 ⟨rfl, hb1⟩
  have B1 := Lib.hid hb1
  clear hb1 FX
  go_wp2_with fail
  refine (RD.out _ (HE.out.below B1.out)).mono ?_
  rintro e w2 ⟨⟨r, A, c, n, ok, rfl, hA, hy, hn⟩, hb2⟩
  have B2 := Lib.hid (B1.out.trans (hb2.mono B1.out.size))
  have HA2 := Lib.hid hA
  clear hb2 RD hA
  cases ok
  · obtain ⟨_, rfl, rfl, rfl, rfl⟩ := hn rfl
    have e1 : rV zeroR none 0 = .agg #[.int .i64 0, .slice none 0 0, .string ⟨#[]⟩, .bool false, .bool false] := rfl
    rw [e1]
    obtain ⟨W3, hW3⟩ : ∃ x, x = w2.alloc (.cells #[.int .i64 0, .slice none 0 0, .string ⟨#[]⟩, .bool false, .bool false] 24) := ⟨_, rfl⟩
    have HW3 := Lib.hid hW3
    have SM : Hid (Calls Tryz.prog 13 #[.agg #[.int .i64 0, .slice none 0 0, .string ⟨#[]⟩, .bool false, .bool false], .agg #[.int .i64 0, .slice none 0 0, .string ⟨#[]⟩, .bool false, .bool false]] W3 fun e w' => e = .returned (.bool true) ∧ Below W3.heap.size W3 w') := by
      refine (same_any W3 zeroR zeroR none none 0 0 (HAt.nil _ _) (HAt.nil _ _) (by decide)).mono ?_
      rintro e w' ⟨rfl, hb⟩
      exact ⟨by rw [same_zero], hb⟩
    have B3 : Hid (Below w.heap.size w W3) := by show Below _ _ _; rw [hW3]; exact B2.out.alloc B2.out.size _
    clear hy hn hW3
    go_wp2_with fail
    rw [← HW3.out]
    refine SM.out.mono ?_
    rintro e w4 ⟨rfl, hb4⟩
    have B4 := Lib.hid (B3.out.trans (hb4.mono B3.out.size))
    clear hb4 SM
    go_wp2_with fail
    go_ret
    exact ⟨rfl, B4.out⟩
  · obtain ⟨z, hz, hzl⟩ := hy rfl
    have RB := Lib.hid (read_back hz)
    obtain ⟨k0, hk0⟩ : ∃ k0, k0 ≤ 65536 ∧ (r.status = 204 → k0 = 0) ∧ ((hd = true ∧ r.body = [] ∧ l = top r k0 ++ z) ∨ (hd = false ∧ l = form r ++ z ∧ k0 = 0)) := by
      have h := (read_back hz).2.2
      cases hd
      · exact ⟨0, by omega, fun _ => rfl, .inr ⟨rfl, h.1 rfl, rfl⟩⟩
      · obtain ⟨hb, k, hk, h2, h3⟩ := h.2 rfl
        exact ⟨k, hk, h2, .inl ⟨rfl, hb, h3⟩⟩
    have K0 := Lib.hid hk0
    have FIT : Hid (RFit r) := by
      show RFit _
      rcases hk0.2.2 with ⟨_, _, h⟩ | ⟨_, h, _⟩
      · exact fit_of RB.out.1 h HL.out
      · refine fit_of (k := r.body.length) (z := (if r.head then [] else r.body) ++ z) RB.out.1 ?_ HL.out
        rw [h]
        unfold form
        rw [List.append_assoc]
    have NB : Hid (1 ≤ n ∧ n ≤ l.length) := by
      show _ ∧ _
      refine ⟨?_, by omega⟩
      rcases hk0.2.2 with ⟨_, _, h⟩ | ⟨_, h, _⟩
      · have := congrArg List.length h
        have p := top_pos r k0
        rw [List.length_append] at this
        omega
      · have := congrArg List.length h
        have p := form_pos r
        rw [List.length_append] at this
        omega
    have HZL := Lib.hid hzl
    have GD := Lib.hid (fun u (h : HAt u A r.headers) => rgood_any u r A c FIT.out h)
    rw [RB.out.1] at GD
    have WR := Lib.hid (fun u (h : HAt u A r.headers) => rwrite_any u r A c FIT.out h)
    unfold wroteV at WR
    rw [RB.out.1] at WR
    have TP := Lib.hid (fun u (j : Nat) (hj : j ≤ 65536) (h : HAt u A r.headers) => top_any u r A c j FIT.out h (good_parts RB.out.1).1 (good_parts RB.out.1).2.1 (by omega))
    unfold rV at GD WR TP ⊢
    obtain ⟨m, hm⟩ : ∃ m, m = r.headers.length := ⟨_, rfl⟩
    obtain ⟨bs, hbs⟩ : ∃ x, x = S r.body := ⟨_, rfl⟩
    obtain ⟨st, hst⟩ : ∃ x, x = r.status := ⟨_, rfl⟩
    obtain ⟨rh, hrh⟩ : ∃ x, x = r.head := ⟨_, rfl⟩
    obtain ⟨cl, hcl⟩ : ∃ x, x = r.close := ⟨_, rfl⟩
    have ebs : bs.toList.isEmpty = decide (r.body = []) := by rw [hbs]; exact S_empty _
    have EBS := Lib.hid ebs
    rw [← hm, ← hbs, ← hst, ← hrh, ← hcl] at GD WR TP ⊢
    have HRH : Hid (rh = hd) := by show _ = _; rw [hrh]; exact RB.out.2.1
    have HST := Lib.hid hst
    clear hm hbs hst hrh hcl ebs hk0 hz hzl hn hy
    obtain ⟨W3, hW3⟩ : ∃ x, x = w2.alloc (.cells #[.int .i64 st, .slice A m c, .string bs, .bool rh, .bool cl] 24) := ⟨_, rfl⟩
    have HW3 := Lib.hid hW3
    obtain ⟨q, hq⟩ : ∃ q, q = w2.heap.size := ⟨_, rfl⟩
    have HQ := Lib.hid hq
    have H3 : Hid (Held W3 q 24 #[.int .i64 st, .slice A m c, .string bs, .bool rh, .bool cl]) := by show Held _ _ _ _; rw [hW3]; exact Held.new _ _ _ hq
    have B3 : Hid (Below w.heap.size w W3) := by show Below _ _ _; rw [hW3]; exact B2.out.alloc B2.out.size _
    have HA3 : Hid (HAt W3 A r.headers) := by show HAt _ _ _; rw [hW3]; exact HA2.out.below ((Below.refl _ _).alloc (Nat.le_refl _) _)
    clear hW3 hq
    obtain rfl := HRH.out
    have n1 : ¬ (n : Int) < 1 := by have := NB.out.1; omega
    have n2 : ¬ (s.size : Int) < (n : Int) := by have := NB.out.2; have := HSZ.out; omega
    have n2n : ¬ s.size < n := by have := NB.out.2; have := HSZ.out; omega
    go_wp2_with fail
    rw [← HW3.out]
    refine (GD.out _ HA3.out).mono ?_
    rintro e w4 ⟨rfl, hb4⟩
    have B4 := Lib.hid (B3.out.trans (hb4.mono B3.out.size))
    have H4 := Lib.hid (H3.out.below hb4 H3.out.lt)
    have HA4 := Lib.hid (HA3.out.below hb4)
    have c0 := H4.out.cell 0
    have c1 := H4.out.cell 1
    have c2 := H4.out.cell 2
    have c3 := H4.out.cell 3
    have c4 := H4.out.cell 4
    rw [HQ.out] at c0 c1 c2 c3 c4
    clear hb4 GD
    cases rh
    · have LF : Hid (l = form r ++ z) := by
        rcases K0.out.2.2 with ⟨h, _⟩ | ⟨_, h, _⟩
        · cases h
        · exact h
      have NE : Hid (n = (form r).length) := by
        have := congrArg List.length LF.out
        rw [List.length_append] at this
        have := HZL.out
        show _ = _
        omega
      obtain ⟨fs, hfs⟩ : ∃ x, x = S (form r) := ⟨_, rfl⟩
      have TF : s.extract 0 n = fs := by
        rw [hfs, HS.out, S_extract, List.drop_zero, Nat.sub_zero, NE.out]
        congr 1
        rw [LF.out]
        exact take_app _ _
      have q1 : (fs.toList == fs.toList) = true := by simp
      have nle : n ≤ s.size := by omega
      have nlz : (n : Int) ≤ (s.size : Int) := by omega
      have nb : (s.size : Int) ≤ 1048576 := by have := HSZ.out; have := HL.out; omega
      simp only [if_true] at WR
      rw [← hfs] at WR
      clear hfs
      go_wp2_with fail
      refine (WR.out _ HA4.out).mono ?_
      rintro e w5 ⟨rfl, hb5⟩
      have B5 := Lib.hid (B4.out.trans (hb5.mono B4.out.size))
      clear hb5 WR
      go_wp2_with fail
      go_ret
      exact ⟨rfl, B5.out⟩
    · have LF : Hid (r.body = [] ∧ l = top r k0 ++ z) := by
        rcases K0.out.2.2 with ⟨_, h⟩ | ⟨h, _⟩
        · exact h
        · cases h
      have NE : Hid (n = (top r k0).length) := by
        have := congrArg List.length LF.out.2
        rw [List.length_append] at this
        have := HZL.out
        show _ = _
        omega
      have eb : bs.toList.isEmpty = true := by rw [EBS.out, LF.out.1]; rfl
      have TF : s.extract 0 n = S (top r k0) := by
        rw [HS.out, S_extract, List.drop_zero, Nat.sub_zero, NE.out]
        congr 1
        rw [LF.out.2]
        exact take_app _ _
      have nle : n ≤ s.size := by omega
      have nlz : (n : Int) ≤ (s.size : Int) := by omega
      have nb : (s.size : Int) ≤ 1048576 := by have := HSZ.out; have := HL.out; omega
      have TFH := Lib.hid TF
      have SZT : Hid ((top r k0).length ≤ 1048576) := by show _ ≤ _; have := NE.out; have := NB.out.2; have := HL.out; omega
      clear WR TF
      go_wp2_with fail
      go_loopw [10, 11] (fun i _ wr => ∃ j : Nat, j ≤ k0 ∧ i = .int .i64 j ∧ Hid (Below w4.heap.size w4 wr)) (fun i _ _ => k0 + 1 - (intOf i).toNat)
      case atStart => exact ⟨0, Nat.zero_le _, rfl, Below.refl _ _⟩
      case round =>
        obtain ⟨j, hj, rfl, HB⟩ := hrel
        have j6 : j ≤ 65536 := by have := K0.out.1; omega
        have jz : (j : Int) ≤ 65536 := by omega
        have BB : Hid (Below w.heap.size w wr) := B4.out.trans (HB.out.mono B4.out.size)
        have HR := Lib.hid (H4.out.below HB.out H4.out.lt)
        have TJ := Lib.hid (TP.out wr j j6 (HA4.out.below HB.out))
        have d0 := HR.out.cell 0
        have d1 := HR.out.cell 1
        have d2 := HR.out.cell 2
        have d3 := HR.out.cell 3
        have d4 := HR.out.cell 4
        rw [HQ.out] at d0 d1 d2 d3 d4
        clear c0 c1 c2 c3 c4
        obtain ⟨t, ht⟩ : ∃ x, x = S (top r j) := ⟨_, rfl⟩
        rw [← ht] at TJ
        have tsz : t.size = (top r j).length := by rw [ht, S_size]
        by_cases e : top r j = top r k0
        · have TF : s.extract 0 n = t := by rw [TFH.out, ht, e]
          have q1 : (t.toList == t.toList) = true := by simp
          have q2 : ((t.size : Int) == (n : Int)) = true := by rw [tsz, e, ← NE.out]; simp
          clear ht tsz e
          go_wp2_with fail
          refine TJ.out.mono ?_
          rintro e w5 ⟨rfl, hb5⟩
          have B5 := Lib.hid (BB.out.trans (hb5.mono BB.out.size))
          clear hb5 TJ
          go_wp2_with fail
          go_ret
          exact ⟨rfl, B5.out⟩
        · have jlt : j < k0 := by
            rcases Nat.lt_or_ge j k0 with h | h
            · exact h
            · exact absurd (by rw [show j = k0 by omega]) e
          have s204 : st ≠ 204 := fun h => by have := K0.out.2.1 (HST.out.symm.trans h); omega
          have q3 : (st == 204) = false := by rw [beq_eq_false_iff_ne]; exact s204
          have tle : ¬ (n : Int) < (t.size : Int) := by
            have := top_mono r hj
            have := NE.out
            omega
          have TFX : s.extract 0 n = S (top r k0) := TFH.out
          obtain ⟨t0, ht0⟩ : ∃ x, x = S (top r k0) := ⟨_, rfl⟩
          rw [← ht0] at TFX
          have q1 : (t.toList == t0.toList) = false := by rw [ht, ht0, S_eq]; exact decide_eq_false e
          have tb : (t.size : Int) ≤ 1048576 := by have := NB.out.2; have := HL.out; omega
          by_cases e2 : t.size = n
          · have q2 : ((t.size : Int) == (n : Int)) = true := by rw [e2]; simp
            clear ht ht0 tsz e e2 s204
            go_wp2_with fail
            refine TJ.out.mono ?_
            rintro e w5 ⟨rfl, hb5⟩
            have N5 := Lib.hid (HB.out.trans (hb5.mono HB.out.size))
            have H5 := Lib.hid (HR.out.below hb5 HR.out.lt)
            have f0 := H5.out.cell 0
            rw [HQ.out] at f0
            clear hb5 TJ
            go_wp2_with fail
            go_roundw
            case rel => exact ⟨j + 1, by omega, by go_num, N5⟩
            case measure => simp [intOf]; omega
          · have q2 : ((t.size : Int) == (n : Int)) = false := by rw [beq_eq_false_iff_ne]; omega
            clear ht ht0 tsz e e2 s204
            go_wp2_with fail
            refine TJ.out.mono ?_
            rintro e w5 ⟨rfl, hb5⟩
            have N5 := Lib.hid (HB.out.trans (hb5.mono HB.out.size))
            have H5 := Lib.hid (HR.out.below hb5 HR.out.lt)
            have f0 := H5.out.cell 0
            rw [HQ.out] at f0
            clear hb5 TJ
            go_wp2_with fail
            go_roundw
            case rel => exact ⟨j + 1, by omega, by go_num, N5⟩
            case measure => simp [intOf]; omega
set_option maxRecDepth 100000 in
theorem opens {H : Type} {enc : TypeId × Value → H} {W : World} {base : Nat} {args : Array Value} {ds : List (DataW H)} {p : List MemPlace}
    (hval : ∀ (j : Nat) t v, Tryz.f4.params[j]? = some t → args[j]? = some v → Value.okWide Tryz.prog W .any base t v)
    (hA : DataW.TrodAll enc Tryz.prog W 0 (fun _ => true) true Tryz.f4.params.toList args.toList ds p) (hlt : ∀ x ∈ p, x.block < W.heap.size) (hk : Rows.uptoBulkAll ds ≤ 1048576) (hE : Env W) :
    Calls Tryz.prog 4 args W fun e W' => e = .returned (.bool true) ∧ Below W.heap.size W W' := by
  rw [Tryz.params4] at hA hval
  obtain ⟨v0, vs0, d0, ds0, p0, q0, hargs, rfl, rfl, h0, r0⟩ := trodAll_cons hA
  obtain ⟨v1, vs1, d1, ds1, p1, q1, rfl, rfl, rfl, h1, r1⟩ := trodAll_cons r0
  obtain ⟨rfl, rfl, rfl⟩ := trodAll_nil r1
  obtain rfl : args = #[v0, v1] := Array.toList_inj.1 hargs
  simp only [Rows.uptoBulkAll] at hk
  obtain ⟨l, rfl, hl⟩ := open_str (hval 0 9 v0 rfl rfl) h0 (by omega)
  obtain ⟨b, rfl⟩ := okWide_bool Tryz.underlying4 (hval 1 4 v1 rfl rfl)
  exact walk W l b (Nat.le_trans hl (Nat.le_refl _)) hE
theorem witness_row (os : Os) {H : Type} (enc : TypeId × Value → H) :
    (Rows.OpenSpec.upto Rows.replyReadsSpec).preRow enc Tryz.prog Tryz.f4 Rows.replyReadsUptoRow.domain false Rows.replyReadsUptoRow.laid ((startW os).forCall (fun _ _ => 0) ⟨#[], #[.string ⟨#[]⟩, .bool false], []⟩).memory #[.string ⟨#[]⟩, .bool false] := by
  have hw : (DataW.whole enc Tryz.prog ((startW os).forCall (fun _ _ => 0) ⟨#[], #[.string ⟨#[]⟩, .bool false], []⟩).memory Tryz.f4.params.toList Rows.replyReadsSpec.vars false (#[.string ⟨#[]⟩, .bool false] : Array Value).toList 8).map (fun x => (x.1, x.2.1)) =
      some ([.lit (.string []), .lit (.bool false)], []) := by kernel_rfl
  obtain ⟨⟨x1, x2, x3⟩, hx, hx1⟩ := Option.map_eq_some_iff.1 hw
  simp only [Prod.mk.injEq] at hx1
  obtain ⟨rfl, rfl⟩ := hx1
  exact OpenSpec.preRow_of_cond 8 hx (by kernel_rfl) (fun k hk => by cases hk; kernel_rfl) (by kernel_rfl) (door_met os _)
set_option maxRecDepth 100000 in
theorem lifted (os : Os) (started : os.Started) (H : Type) (enc : TypeId × Value → H) (F : Stop.Interp) :
    ReturnsInHanded {} Tryz.checked os 4 .any ((Rows.OpenSpec.upto Rows.replyReadsSpec).preRow enc Tryz.prog Tryz.f4 Rows.replyReadsUptoRow.domain false Rows.replyReadsUptoRow.laid) (((Rows.OpenSpec.upto Rows.replyReadsSpec).at F).post enc Tryz.prog Tryz.f4 false true false false) := by
  refine returnsInHanded_of_row (C := Tryz.checked) (s := Rows.OpenSpec.upto Rows.replyReadsSpec) own started (by kernel_rfl) Tryz.func4
    (witness_row_atRef (enc := enc) (C := Tryz.checked) false (startW os) #[.string ⟨#[]⟩, .bool false] rfl (by kernel_rfl) (by kernel_rfl) (by kernel_rfl) (witness_row os enc)) ?_
  intro W base args ds gs before hval hW _ hcond _ hL hsh _
  have hk := hcond _ rfl
  refine law_calls (s := Rows.replyReadsSpec) laidOut Tryz.underlying4 rfl (by rw [Tryz.params4]; exact of_decide_eq_true (by kernel_rfl)) rfl (fun ds h => by match ds, h with | [_, _], _ => rfl) hW ?_
  obtain ⟨rfl, p, hA, hlt⟩ := law_args rfl hW
  have hb : Rows.uptoBulkAll (ds ++ []) ≤ 1048576 := of_decide_eq_true hk
  rw [List.append_nil] at hb
  exact opens hval hA hlt hb (env_of hL hsh)

theorem saidUpto : Rows.ReplyReadsUptoSaid :=
  OpenClaim.holds_of_cond 4 Tryz.f4 rfl rfl rfl rfl rfl rfl rfl ⟨rfl, rfl, rfl, rfl, rfl⟩ rfl rfl rfl rfl rfl (by kernel_rfl) Tryz.func4 (by kernel_rfl)
    (of_decide_eq_true (by kernel_rfl)) (by unfold Func.isWrapper; first | (rw [if_pos (by decide +kernel)]; kernel_rfl) | (rw [if_neg (by decide +kernel)]; exact ⟨rfl, rfl⟩))
    (fun os started H enc _ F => by rw [OpenClaim.pre_eq_preRow]; exact lifted os started H enc F)
theorem plain (f : FuncId) (fn : Func) (hf : Tryz.pinned.checked.prog.funcNamed "docket/docketlaw12.ReplyReads" = some f) (hfn : Tryz.pinned.checked.prog.funcs[f]? = some fn) :
    true = Tryz.pinned.checked.prog.looks [] ∧ ∀ (j : Nat) t, fn.params[j]? = some t → Tryz.pinned.checked.prog.wantsStandIn t = false := by
  obtain rfl : f = 4 := Option.some.inj ((show Tryz.prog.funcNamed "docket/docketlaw12.ReplyReads" = some 4 by kernel_rfl).symm.trans hf) |>.symm
  obtain rfl : fn = Tryz.f4 := (Option.some.inj (Tryz.func4.symm.trans hfn)).symm
  exact ⟨by kernel_rfl, fun j t ht => (of_decide_eq_true (p := ∀ t ∈ Tryz.f4.params.toList, Tryz.prog.wantsStandIn t = false) (by kernel_rfl)) t (Array.mem_toList_iff.2 (Array.mem_of_getElem? ht))⟩
theorem proved : Rows.ReplyReadsUptoCardSaid :=
  Claim7.holds_tied_plain_at .later [] _ _ _ _ saidUpto (fun _ h => by cases h) (by kernel_rfl) (fun _ h => by cases h) replyReadsUpto_row_tie rfl ⟨rfl, rfl⟩ (by kernel_rfl) rfl plain (by kernel_rfl)

end Go.Proofs.YtdojchamdcokiaaGreatDoor.replyReads
