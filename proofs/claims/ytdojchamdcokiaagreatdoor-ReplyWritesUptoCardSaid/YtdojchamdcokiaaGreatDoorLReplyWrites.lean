/-
  ReplyWrites: Reason, Good and Write answer as the chapter says, for every response (where all that comes in is of bulk at most 1048576).
-/
import Derived.Test.YtdojchamdcokiaaGreatDoorR23
namespace Go.Proofs.YtdojchamdcokiaaGreatDoor.replyWrites
open Go.ChangeShapes Go.WideShapes Go.ChangeAt Go.RowKit Reply

set_option maxRecDepth 100000 in
set_option maxHeartbeats 8000000 in
theorem walk (w : World) (r : Rs) (A : Option Addr) (c : Nat) (hf : RFit r) (hA : HAt w A r.headers) (E : Env w) :
    Calls Tryz.prog 3 #[rV r A c] w fun e w' => e = .returned (.bool true) ∧ Below w.heap.size w w' := by
  have HE := Lib.hid E
  have HA := Lib.hid hA
  have FX := Lib.hid (fun u (k : Env u) => fixed_any u k)
  have WF := Lib.hid (fun u (k : Env u) (h : HAt u A r.headers) => fwrite_any u k r A c hf h)
  have WR := Lib.hid (fun u (h : HAt u A r.headers) => rwrite_any u r A c hf h)
  have GF := Lib.hid (fun u (h : HAt u A r.headers) => fgood_any u r A c hf h)
  have GR := Lib.hid (fun u (h : HAt u A r.headers) => rgood_any u r A c hf h)
  have RF := Lib.hid (fun u => freason_any u r.status)
  have RR := Lib.hid (fun u => rreason_any r.status u)
  obtain ⟨sv, hsv⟩ : ∃ x, x = (if good r then S (form r) else S []) := ⟨_, rfl⟩
  obtain ⟨ev, hev⟩ : ∃ x : Int, x = (if good r then 0 else 1) := ⟨_, rfl⟩
  unfold wroteV at WF WR
  rw [← hsv, ← hev] at WF WR
  obtain ⟨gg, hgg⟩ : ∃ x, x = good r := ⟨_, rfl⟩
  rw [← hgg] at GF GR
  obtain ⟨rs, hrs⟩ : ∃ x, x = S (reason r.status) := ⟨_, rfl⟩
  rw [← hrs] at RF RR
  unfold rV at WF WR GF GR ⊢
  obtain ⟨n, hn⟩ : ∃ n, n = r.headers.length := ⟨_, rfl⟩
  obtain ⟨bs, hbs⟩ : ∃ x, x = S r.body := ⟨_, rfl⟩
  obtain ⟨st, hst⟩ : ∃ x, x = r.status := ⟨_, rfl⟩
  obtain ⟨hd, hhd⟩ : ∃ x, x = r.head := ⟨_, rfl⟩
  obtain ⟨cl, hcl⟩ : ∃ x, x = r.close := ⟨_, rfl⟩
  rw [← hn, ← hbs, ← hst, ← hhd, ← hcl] at WF WR GF GR ⊢
  rw [← hst] at RF RR
  obtain ⟨W0, hW0⟩ : ∃ x, x = w.alloc (.cells #[.int .i64 st, .slice A n c, .string bs, .bool hd, .bool cl] 24) := ⟨_, rfl⟩
  have HW0 := Lib.hid hW0
  have HLD : Hid (Held W0 w.heap.size 24 #[.int .i64 st, .slice A n c, .string bs, .bool hd, .bool cl]) := by show Held _ _ _ _; rw [hW0]; exact Held.new _ _ _ rfl
  have B0 : Hid (Below w.heap.size w W0) := by show Below _ _ _; rw [hW0]; exact (Below.refl _ _).alloc (Nat.le_refl _) _
  have q1 : (sv.toList == sv.toList) = true := by simp
  have q2 : (rs.toList == rs.toList) = true := by simp
  have q3 : (ev == ev) = true := by simp
  have q4 : (gg == gg) = true := by simp
  clear hsv hev hgg hrs hn hbs hst hhd hcl hW0 hf hA E
  go_enter Tryz.func3, Tryz.ntmps3
  go_wp2_with fail
  rw [← HW0.out]
  refine (FX.out _ (HE.out.below B0.out)).mono ?_
  rintro e w1 ⟨rfl, hb1⟩
  have B1 := Lib.hid (B0.out.trans (hb1.mono B0.out.size))
  have L1 := Lib.hid (HLD.out.below hb1 HLD.out.lt)
  have c0 := L1.out.cell 0
  have c1 := L1.out.cell 1
  have c2 := L1.out.cell 2
  have c3 := L1.out.cell 3
  have c4 := L1.out.cell 4
  clear hb1 FX
  go_wp2_with fail
  refine (WF.out _ (HE.out.below B1.out) (HA.out.below B1.out)).mono ?_
  rintro e w2 ⟨rfl, hb2⟩
  have B2 := Lib.hid (B1.out.trans (hb2.mono B1.out.size))
  have L2 := Lib.hid (L1.out.below hb2 L1.out.lt)
  clear hb2 c0 c1 c2 c3 c4 WF
  have c0 := L2.out.cell 0
  have c1 := L2.out.cell 1
  have c2 := L2.out.cell 2
  have c3 := L2.out.cell 3
  have c4 := L2.out.cell 4
  go_wp2_with fail
  refine (WR.out _ (HA.out.below B2.out)).mono ?_
  rintro e w3 ⟨rfl, hb3⟩
  have B3 := Lib.hid (B2.out.trans (hb3.mono B2.out.size))
  have L3 := Lib.hid (L2.out.below hb3 L2.out.lt)
  clear hb3 c0 c1 c2 c3 c4 WR
  go_upto_region 5 with fail
  refine wp_region_noPanic ?_
  refine wp_region_held_drew (S := fun w' => w'.cell? ⟨w.heap.size, 0, none⟩ = some (.int .i64 st) ∧ w'.cell? ⟨w.heap.size, 1, none⟩ = some (.slice A n c) ∧ w'.cell? ⟨w.heap.size, 2, none⟩ = some (.string bs) ∧ w'.cell? ⟨w.heap.size, 3, none⟩ = some (.bool hd) ∧ w'.cell? ⟨w.heap.size, 4, none⟩ = some (.bool cl)) (by kernel_rfl) ⟨L3.out.cell 0, L3.out.cell 1, L3.out.cell 2, L3.out.cell 3, L3.out.cell 4⟩ (fun hHeld => ?_)
  refine take_ (i := 0) (v := ?_) 19 rfl rfl (by kernel_rfl) (by kernel_rfl) (by kernel_rfl) (fun _ _ _ h => h) (Or.inl ⟨by rfl, ?_⟩) (by assumption) ?_
  rotate_left
  · (intro wS hSw; (try dsimp only at hSw); go_simp; try with_reducible rfl)
  simp only [Act.put, List.setIfInBounds_toArray, List.set_cons_zero, List.set_cons_succ]
  refine take_ (i := 1) (v := ?_) 20 rfl rfl (by kernel_rfl) (by kernel_rfl) (by kernel_rfl) (fun _ _ _ h => h) (Or.inl ⟨by rfl, ?_⟩) (by assumption) ?_
  rotate_left
  · (intro wS hSw; (try dsimp only at hSw); go_simp; try with_reducible rfl)
  simp only [Act.put, List.setIfInBounds_toArray, List.set_cons_zero, List.set_cons_succ]
  refine take_ (i := 2) (v := ?_) 21 rfl rfl (by kernel_rfl) (by kernel_rfl) (by kernel_rfl) (fun _ _ _ h => h) (Or.inl ⟨by rfl, ?_⟩) (by assumption) ?_
  rotate_left
  · (intro wS hSw; (try dsimp only at hSw); go_simp; try with_reducible rfl)
  simp only [Act.put, List.setIfInBounds_toArray, List.set_cons_zero, List.set_cons_succ]
  refine take_ (i := 3) (v := ?_) 22 rfl rfl (by kernel_rfl) (by kernel_rfl) (by kernel_rfl) (fun _ _ _ h => h) (Or.inl ⟨by rfl, ?_⟩) (by assumption) ?_
  rotate_left
  · (intro wS hSw; (try dsimp only at hSw); go_simp; try with_reducible rfl)
  simp only [Act.put, List.setIfInBounds_toArray, List.set_cons_zero, List.set_cons_succ]
  refine take_ (i := 4) (v := ?_) 23 rfl rfl (by kernel_rfl) (by kernel_rfl) (by kernel_rfl) (fun _ _ _ h => h) (Or.inl ⟨by rfl, ?_⟩) (by assumption) ?_
  rotate_left
  · (intro wS hSw; (try dsimp only at hSw); go_simp; try with_reducible rfl)
  simp only [Act.put, List.setIfInBounds_toArray, List.set_cons_zero, List.set_cons_succ]
  refine take_ (i := 5) (v := ?_) 24 rfl rfl (by kernel_rfl) (by kernel_rfl) (by kernel_rfl) (fun _ _ _ h => h) (Or.inl ⟨by rfl, ?_⟩) (by assumption) ?_
  rotate_left
  · (intro wS hSw; (try dsimp only at hSw); go_simp; try with_reducible rfl)
  simp only [Act.put, List.setIfInBounds_toArray, List.set_cons_zero, List.set_cons_succ]
  refine take_ (i := 6) (v := ?_) 25 rfl rfl (by kernel_rfl) (by kernel_rfl) (by kernel_rfl) (fun _ _ _ h => h) (Or.inl ⟨by rfl, ?_⟩) (by assumption) ?_
  rotate_left
  · (intro wS hSw; (try dsimp only at hSw); go_simp; try with_reducible rfl)
  simp only [Act.put, List.setIfInBounds_toArray, List.set_cons_zero, List.set_cons_succ]
  refine take_ (i := 7) (v := ?_) 26 rfl rfl (by kernel_rfl) (by kernel_rfl) (by kernel_rfl) (fun _ _ _ h => h) (Or.inl ⟨by rfl, ?_⟩) (by assumption) ?_
  rotate_left
  · (intro wS hSw; (try dsimp only at hSw); go_simp; try with_reducible rfl)
  simp only [Act.put, List.setIfInBounds_toArray, List.set_cons_zero, List.set_cons_succ]
  refine take_ (i := 8) (v := ?_) 27 rfl rfl (by kernel_rfl) (by kernel_rfl) (by kernel_rfl) (fun _ _ _ h => h) (Or.inl ⟨by rfl, ?_⟩) (by assumption) ?_
  rotate_left
  · (intro wS hSw; (try dsimp only at hSw); go_simp; try with_reducible rfl)
  simp only [Act.put, List.setIfInBounds_toArray, List.set_cons_zero, List.set_cons_succ]
  refine take_ (i := 9) (v := ?_) 28 rfl rfl (by kernel_rfl) (by kernel_rfl) (by kernel_rfl) (fun _ _ _ h => h) (Or.inl ⟨by rfl, ?_⟩) (by assumption) ?_
  rotate_left
  · (intro wS hSw; (try dsimp only at hSw); go_simp; try with_reducible rfl)
  simp only [Act.put, List.setIfInBounds_toArray, List.set_cons_zero, List.set_cons_succ]
  refine take_ (i := 11) (v := ?_) 30 rfl rfl (by kernel_rfl) (by kernel_rfl) (by kernel_rfl) (fun _ _ _ h => h) (Or.inl ⟨by rfl, ?_⟩) (by assumption) ?_
  rotate_left
  · (intro wS hSw; (try dsimp only at hSw); go_simp; try with_reducible rfl)
  simp only [Act.put, List.setIfInBounds_toArray, List.set_cons_zero, List.set_cons_succ]
  refine one_ (i := 10) _ (by kernel_rfl) rfl (fun K hK => ?_)
  go_simp
  refine (GF.out _ (HA.out.below (B3.out.drew))).mono ?_
  rintro x w4 ⟨rfl, hb4⟩
  dsimp only
  have B4 := Lib.hid ((B3.out.drew).trans (hb4.mono B3.out.size))
  have L4 := Lib.hid ((L3.out.drew).below hb4 L3.out.lt)
  clear hb4 GF
  refine hK.out _ _ ⟨L4.out.cell 0, L4.out.cell 1, L4.out.cell 2, L4.out.cell 3, L4.out.cell 4⟩ (fun hHeld => ?_)
  clear hK K
  refine one_ (i := 12) _ (by kernel_rfl) rfl (fun K hK => ?_)
  go_simp
  refine (GR.out _ (HA.out.below B4.out)).mono ?_
  rintro x w5 ⟨rfl, hb5⟩
  dsimp only
  have B5 := Lib.hid (B4.out.trans (hb5.mono B4.out.size))
  have L5 := Lib.hid (L4.out.below hb5 L4.out.lt)
  clear hb5 GR
  refine hK.out _ _ ⟨L5.out.cell 0, L5.out.cell 1, L5.out.cell 2, L5.out.cell 3, L5.out.cell 4⟩ (fun hHeld => ?_)
  clear hK K
  refine take_ (i := 13) (v := ?_) 32 rfl rfl (by kernel_rfl) (by kernel_rfl) (by kernel_rfl) (fun _ _ _ h => h) (Or.inl ⟨by rfl, ?_⟩) (by assumption) ?_
  rotate_left
  · (intro wS hSw; (try dsimp only at hSw); go_simp; try with_reducible rfl)
  simp only [Act.put, List.setIfInBounds_toArray]
  refine take_ (i := 14) (v := ?_) 33 rfl rfl (by kernel_rfl) (by kernel_rfl) (by kernel_rfl) (fun _ _ _ h => h) (Or.inl ⟨by rfl, ?_⟩) (by assumption) ?_
  rotate_left
  · (intro wS hSw; (try dsimp only at hSw); go_simp; try with_reducible rfl)
  simp only [Act.put, List.setIfInBounds_toArray]
  refine take_ (i := 15) (v := ?_) 34 rfl rfl (by kernel_rfl) (by kernel_rfl) (by kernel_rfl) (fun _ _ _ h => h) (Or.inl ⟨by rfl, ?_⟩) (by assumption) ?_
  rotate_left
  · (intro wS hSw; (try dsimp only at hSw); go_simp; try with_reducible rfl)
  simp only [Act.put, List.setIfInBounds_toArray]
  refine take_ (i := 16) (v := ?_) 35 rfl rfl (by kernel_rfl) (by kernel_rfl) (by kernel_rfl) (fun _ _ _ h => h) (Or.inl ⟨by rfl, ?_⟩) (by assumption) ?_
  rotate_left
  · (intro wS hSw; (try dsimp only at hSw); go_simp; try with_reducible rfl)
  simp only [Act.put, List.setIfInBounds_toArray]
  refine take_ (i := 17) (v := ?_) 36 rfl rfl (by kernel_rfl) (by kernel_rfl) (by kernel_rfl) (fun _ _ _ h => h) (Or.inl ⟨by rfl, ?_⟩) (by assumption) ?_
  rotate_left
  · (intro wS hSw; (try dsimp only at hSw); go_simp; try with_reducible rfl)
  simp only [Act.put, List.setIfInBounds_toArray]
  refine take_ (i := 19) (v := ?_) 38 rfl rfl (by kernel_rfl) (by kernel_rfl) (by kernel_rfl) (fun _ _ _ h => h) (Or.inl ⟨by rfl, ?_⟩) (by assumption) ?_
  rotate_left
  · (intro wS hSw; (try dsimp only at hSw); go_simp; try with_reducible rfl)
  simp only [Act.put, List.setIfInBounds_toArray]
  refine take_ (i := 20) (v := ?_) 39 rfl rfl (by kernel_rfl) (by kernel_rfl) (by kernel_rfl) (fun _ _ _ h => h) (Or.inl ⟨by rfl, ?_⟩) (by assumption) ?_
  rotate_left
  · (intro wS hSw; (try dsimp only at hSw); go_simp; try with_reducible rfl)
  simp only [Act.put, List.setIfInBounds_toArray]
  refine one_ (i := 18) _ (by kernel_rfl) rfl (fun K hK => ?_)
  go_simp
  refine (RF.out _).mono ?_
  rintro x w6 ⟨rfl, hb6⟩
  dsimp only
  have B6 := Lib.hid (B5.out.trans (hb6.mono B5.out.size))
  have L6 := Lib.hid (L5.out.below hb6 L5.out.lt)
  clear hb6 RF
  refine hK.out _ _ ⟨L6.out.cell 0, L6.out.cell 1, L6.out.cell 2, L6.out.cell 3, L6.out.cell 4⟩ (fun hHeld => ?_)
  clear hK K
  refine one_ (i := 21) _ (by kernel_rfl) rfl (fun K hK => ?_)
  go_simp
  refine (RR.out _).mono ?_
  rintro x w' ⟨rfl, rfl⟩
  dsimp only
  refine hK.out _ _ ⟨L6.out.cell 0, L6.out.cell 1, L6.out.cell 2, L6.out.cell 3, L6.out.cell 4⟩ (fun hHeld => ?_)
  clear hK K
  refine take_ (i := 22) (v := ?_) 41 rfl rfl (by kernel_rfl) (by kernel_rfl) (by kernel_rfl) (fun _ _ _ h => h) (Or.inl ⟨by rfl, ?_⟩) (by assumption) ?_
  rotate_left
  · (intro wS hSw; (try dsimp only at hSw); go_simp; try with_reducible rfl)
  simp only [Act.put, List.setIfInBounds_toArray]
  refine take_ (i := 23) (v := ?_) 42 rfl rfl (by kernel_rfl) (by kernel_rfl) (by kernel_rfl) (fun _ _ _ h => h) (Or.inl ⟨by rfl, ?_⟩) (by assumption) ?_
  rotate_left
  · (intro wS hSw; (try dsimp only at hSw); go_simp; try with_reducible rfl)
  simp only [Act.put, List.setIfInBounds_toArray]
  refine take_ (i := 24) (v := ?_) 2 rfl rfl (by kernel_rfl) (by kernel_rfl) (by kernel_rfl) (fun _ _ _ h => h) (Or.inl ⟨by rfl, ?_⟩) (by assumption) ?_
  rotate_left
  · (intro wS hSw; (try dsimp only at hSw); go_simp; try with_reducible rfl)
  simp only [Act.put, List.setIfInBounds_toArray]
  refine wpAnyH_done (by kernel_rfl) ?_ _
  refine NoPanic.normal ?_
  go_wp2_with fail
  go_ret
  exact ⟨rfl, B6.out⟩
set_option maxRecDepth 100000 in
theorem opens {H : Type} {enc : TypeId × Value → H} {W : World} {base : Nat} {args : Array Value} {ds : List (DataW H)} {p : List MemPlace}
    (hval : ∀ (j : Nat) t v, Tryz.f3.params[j]? = some t → args[j]? = some v → Value.okWide Tryz.prog W .any base t v)
    (hA : DataW.TrodAll enc Tryz.prog W 0 (fun _ => true) true Tryz.f3.params.toList args.toList ds p) (hlt : ∀ x ∈ p, x.block < W.heap.size) (hk : Rows.uptoBulkAll ds ≤ 1048576) (hE : Env W) :
    Calls Tryz.prog 3 args W fun e W' => e = .returned (.bool true) ∧ Below W.heap.size W W' := by
  rw [Tryz.params3] at hA hval
  obtain ⟨v0, vs0, d0, ds0, p0, q0, hargs, rfl, rfl, h0, r0⟩ := trodAll_cons hA
  obtain ⟨rfl, rfl, rfl⟩ := trodAll_nil r0
  obtain rfl : args = #[v0] := Array.toList_inj.1 hargs
  simp only [Rows.uptoBulkAll] at hk
  obtain ⟨r, A, c, rfl, hF, hH⟩ := open_resp (hval 0 24 v0 rfl rfl) h0 (by omega)
  exact walk W r A c hF hH hE
theorem witness_row (os : Os) {H : Type} (enc : TypeId × Value → H) :
    (Rows.OpenSpec.upto Rows.replyWritesSpec).preRow enc Tryz.prog Tryz.f3 Rows.replyWritesUptoRow.domain false Rows.replyWritesUptoRow.laid ((startW os).forCall (fun _ _ => 0) ⟨#[], #[.agg #[.int .i64 0, .slice none 0 0, .string ⟨#[]⟩, .bool false, .bool false]], []⟩).memory #[.agg #[.int .i64 0, .slice none 0 0, .string ⟨#[]⟩, .bool false, .bool false]] := by
  have hw : (DataW.whole enc Tryz.prog ((startW os).forCall (fun _ _ => 0) ⟨#[], #[.agg #[.int .i64 0, .slice none 0 0, .string ⟨#[]⟩, .bool false, .bool false]], []⟩).memory Tryz.f3.params.toList Rows.replyWritesSpec.vars false (#[.agg #[.int .i64 0, .slice none 0 0, .string ⟨#[]⟩, .bool false, .bool false]] : Array Value).toList 8).map (fun x => (x.1, x.2.1)) =
      some ([.agg [.lit (.int .i64 0), .nil, .lit (.string []), .lit (.bool false), .lit (.bool false)]], []) := by kernel_rfl
  obtain ⟨⟨x1, x2, x3⟩, hx, hx1⟩ := Option.map_eq_some_iff.1 hw
  simp only [Prod.mk.injEq] at hx1
  obtain ⟨rfl, rfl⟩ := hx1
  exact OpenSpec.preRow_of_cond 8 hx (by kernel_rfl) (fun k hk => by cases hk; kernel_rfl) (by kernel_rfl) (door_met os _)
set_option maxRecDepth 100000 in
theorem lifted (os : Os) (started : os.Started) (H : Type) (enc : TypeId × Value → H) (F : Stop.Interp) :
    ReturnsInHanded {} Tryz.checked os 3 .any ((Rows.OpenSpec.upto Rows.replyWritesSpec).preRow enc Tryz.prog Tryz.f3 Rows.replyWritesUptoRow.domain false Rows.replyWritesUptoRow.laid) (((Rows.OpenSpec.upto Rows.replyWritesSpec).at F).post enc Tryz.prog Tryz.f3 false true false false) := by
  refine returnsInHanded_of_row (C := Tryz.checked) (s := Rows.OpenSpec.upto Rows.replyWritesSpec) own started (by kernel_rfl) Tryz.func3
    (witness_row_atRef (enc := enc) (C := Tryz.checked) false (startW os) #[.agg #[.int .i64 0, .slice none 0 0, .string ⟨#[]⟩, .bool false, .bool false]] rfl (by kernel_rfl) (by kernel_rfl) (by kernel_rfl) (witness_row os enc)) ?_
  intro W base args ds gs before hval hW _ hcond _ hL hsh _
  have hk := hcond _ rfl
  refine law_calls (s := Rows.replyWritesSpec) laidOut Tryz.underlying4 rfl (by rw [Tryz.params3]; exact of_decide_eq_true (by kernel_rfl)) rfl (fun ds h => by match ds, h with | [_], _ => rfl) hW ?_
  obtain ⟨rfl, p, hA, hlt⟩ := law_args rfl hW
  have hb : Rows.uptoBulkAll (ds ++ []) ≤ 1048576 := of_decide_eq_true hk
  rw [List.append_nil] at hb
  exact opens hval hA hlt hb (env_of hL hsh)

theorem saidUpto : Rows.ReplyWritesUptoSaid :=
  OpenClaim.holds_of_cond 3 Tryz.f3 rfl rfl rfl rfl rfl rfl rfl ⟨rfl, rfl, rfl, rfl, rfl⟩ rfl rfl rfl rfl rfl (by kernel_rfl) Tryz.func3 (by kernel_rfl)
    (of_decide_eq_true (by kernel_rfl)) (by unfold Func.isWrapper; first | (rw [if_pos (by decide +kernel)]; kernel_rfl) | (rw [if_neg (by decide +kernel)]; exact ⟨rfl, rfl⟩))
    (fun os started H enc _ F => by rw [OpenClaim.pre_eq_preRow]; exact lifted os started H enc F)
theorem plain (f : FuncId) (fn : Func) (hf : Tryz.pinned.checked.prog.funcNamed "docket/docketlaw12.ReplyWrites" = some f) (hfn : Tryz.pinned.checked.prog.funcs[f]? = some fn) :
    true = Tryz.pinned.checked.prog.looks [] ∧ ∀ (j : Nat) t, fn.params[j]? = some t → Tryz.pinned.checked.prog.wantsStandIn t = false := by
  obtain rfl : f = 3 := Option.some.inj ((show Tryz.prog.funcNamed "docket/docketlaw12.ReplyWrites" = some 3 by kernel_rfl).symm.trans hf) |>.symm
  obtain rfl : fn = Tryz.f3 := (Option.some.inj (Tryz.func3.symm.trans hfn)).symm
  exact ⟨by kernel_rfl, fun j t ht => (of_decide_eq_true (p := ∀ t ∈ Tryz.f3.params.toList, Tryz.prog.wantsStandIn t = false) (by kernel_rfl)) t (Array.mem_toList_iff.2 (Array.mem_of_getElem? ht))⟩
theorem proved : Rows.ReplyWritesUptoCardSaid :=
  Claim7.holds_tied_plain_at .later [] _ _ _ _ saidUpto (fun _ h => by cases h) (by kernel_rfl) (fun _ h => by cases h) replyWritesUpto_row_tie rfl ⟨rfl, rfl⟩ (by kernel_rfl) rfl plain (by kernel_rfl)

end Go.Proofs.YtdojchamdcokiaaGreatDoor.replyWrites
