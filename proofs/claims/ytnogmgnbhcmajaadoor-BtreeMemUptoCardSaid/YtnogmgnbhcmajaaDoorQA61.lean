/-
  btree: Get. · btree: Scan.
-/
import Derived.Test.YtnogmgnbhcmajaaDoorQA58
namespace Go.Proofs.YtnogmgnbhcmajaaDoor
open Go.RowKit Wal

/-- Not too deep. -/
def Deep (f : Nat → Option KB) (root : Nat) (es : List En) (bs : List Nat) : Prop := ∀ d, At f d root es bs → d ≤ 190
theorem Roomy.deep {n : Nat} {f : Nat → Option KB} {root : Nat} {es : List En} {bs : List Nat} (h : Roomy n f root es bs) : Deep f root es bs := fun d hd => (h d hd).1
theorem GetR.form {es : List En} {k : List Nat} {x : Ending} (h : GetR es k x) : ∃ s b, x = .returned (.tuple #[.string s, .bool b]) := by
  unfold GetR at h
  split at h
  · exact ⟨_, _, h⟩
  · exact ⟨_, _, h⟩
set_option maxRecDepth 100000 in
set_option maxHeartbeats 1600000 in
theorem get1_any (w : World) (t : Nat) (es : List En) (k : List Nat) (tb kb vb fb : Nat) (s0 : ByteArray) (b0 : Bool) (ht : Held w tb 40 #[.pointer (some ⟨t, 0, none⟩)]) (hk : Held w kb 9 #[.string (strB k)]) (hv : Held w vb 9 #[.string s0]) (hf : Held w fb 4 #[.bool b0])
    (h : Calls Tryd.prog 29 #[.pointer (some ⟨t, 0, none⟩), .string (strB k)] w fun x w' => GetR es k x ∧ Below w.heap.size w w') :
    Calls Tryd.prog 28 #[.pointer (some ⟨tb, 0, none⟩), .pointer (some ⟨kb, 0, none⟩), .pointer (some ⟨vb, 0, none⟩), .pointer (some ⟨fb, 0, none⟩)] w fun x w' => x = .returned (.tuple #[]) ∧ ∃ s b w1, GetR es k (.returned (.tuple #[.string s, .bool b])) ∧ Below w.heap.size w w1 ∧ w' = (w1.setCell ⟨vb, 0, none⟩ (.string s)).setCell ⟨fb, 0, none⟩ (.bool b) := by
  have HH := Lib.hid h
  have HV := Lib.hid hv
  have HF := Lib.hid hf
  have t0 := ht.cell 0
  have k0 := hk.cell 0
  have tl := ht.lt
  have kl := hk.lt
  clear h hv hf ht hk
  go_enter Tryd.func28, Tryd.ntmps28
  go_wp2_with fail
  refine HH.out.mono ?_
  rintro x w2 ⟨hx, hb⟩
  obtain ⟨s, b, rfl⟩ := hx.form
  have HX := Lib.hid hx
  have B2 := Lib.hid hb
  have V2 := Lib.hid (HV.out.below hb HV.out.lt)
  have F2 := Lib.hid (HF.out.below hb HF.out.lt)
  have NE : fb ≠ vb := Held.ne_ F2.out V2.out (by decide)
  have a0 := V2.out.cell 0
  have b0 := F2.out.cell 0
  have ya := V2.out.frozen 0
  have yb := F2.out.frozen 0
  have la := V2.out.lt
  have lb := F2.out.lt
  clear hx hb HH t0 k0 tl kl
  go_wp2_with fail
  go_end0
  exact ⟨rfl, s, b, w2, HX.out, B2.out, rfl⟩
theorem load_one {w : World} {b t : Nat} {v : Value} (ha : (isAgg t).run Tryd.prog w = .ok false w) (h : Held w b t #[v]) : (loadVar t ⟨b, 0, none⟩).run Tryd.prog w = .ok v w := by
  have hc : w.cell? ⟨b, 0, none⟩ = some v := h.cell 0
  unfold loadVar
  simp only [go_sem]
  simp [run_load]
  rw [ha]
  show (match w.cell? ⟨b, 0, none⟩ with | some v => _ | none => _) = _
  rw [hc]
theorem res_two {P : Program} {f : Func} (tm : Array Value) (w : World) (i j k T U : Nat) (x y z : Value) (p q : Addr) (hf : f.results = #[.cell i T, .cell j U, .tmp k]) (h1 : tm.getD i undef = .pointer (some p)) (h2 : tm.getD j undef = .pointer (some q)) (h3 : tm.getD k undef = z)
    (l1 : (loadVar T p).run P w = .ok x w) (l2 : (loadVar U q).run P w = .ok y w) :
    (results f tm).run P w = .ok (.tuple #[x, y, z]) w := by
  unfold results
  rw [hf]
  rw [Array.getD_eq_getD_getElem?] at h1 h2 h3
  simp [h1, h2, h3, asAddr, l1, l2]
/-- Get's answer. -/
def GetA (es : List En) (k : List Nat) (x : Ending) : Prop :=
  if goodK k = true then (match getE es k with
    | some v => x = .returned (.tuple #[.string (strB v), .bool true, .int .i64 0])
    | none => x = .returned (.tuple #[.string ⟨#[]⟩, .bool false, .int .i64 0])) else x = .returned (.tuple #[.string ⟨#[]⟩, .bool false, .int .i64 1])
theorem GetA.of {es : List En} {k : List Nat} {s : ByteArray} {b : Bool} (hg : goodK k = true) (h : GetR es k (.returned (.tuple #[.string s, .bool b]))) : GetA es k (.returned (.tuple #[.string s, .bool b, .int .i64 0])) := by
  unfold GetA
  unfold GetR at h
  rw [if_pos hg]
  split at h
  · rename_i v HGE
    injection h with h
    injection h with h
    injection h with h
    injection h with h1 h
    injection h with h2 _
    injection h1 with h1
    injection h2 with h2
    simp only [HGE, h1, h2]
  · rename_i HGE
    injection h with h
    injection h with h
    injection h with h
    injection h with h1 h
    injection h with h2 _
    injection h1 with h1
    injection h2 with h2
    simp only [HGE, h1, h2]
set_option maxRecDepth 100000 in
set_option maxHeartbeats 1600000 in
theorem tget_any (B : Nat) (w : World) (t p root n : Nat) (f : Nat → Option KB) (es : List En) (bs : List Nat) (h : LiveT B w t p root n f es bs) (deep : Deep f root es bs) (k : List Nat) (hk8 : ∀ x ∈ k, x < 256) :
    Calls Tryd.prog 13 #[.pointer (some ⟨t, 0, none⟩), .string (strB k)] w fun x w' => GetA es k x ∧ Below w.heap.size w w' := by
  obtain ⟨q, hq⟩ : ∃ q, q = w.heap.size := ⟨_, rfl⟩
  obtain ⟨w2, hw2⟩ : ∃ w2, w2 = (((w.alloc (.cells #[.pointer (some ⟨t, 0, none⟩)] 40)).alloc (.cells #[.string (strB k)] 9)).alloc (.cells #[.string ⟨#[]⟩] 9)).alloc (.cells #[.bool false] 4) := ⟨_, rfl⟩
  have TH : Held w2 q 40 #[.pointer (some ⟨t, 0, none⟩)] := by rw [hw2]; exact (((Held.new _ _ _ hq).alloc _).alloc _).alloc _
  have KH : Held w2 (q + 1) 9 #[.string (strB k)] := by rw [hw2]; exact ((Held.new _ _ _ (by rw [hq]; simp)).alloc _).alloc _
  have VH : Held w2 (q + 1 + 1) 9 #[.string ⟨#[]⟩] := by rw [hw2]; exact (Held.new _ _ _ (by rw [hq]; simp)).alloc _
  have FH : Held w2 (q + 1 + 1 + 1) 4 #[.bool false] := by rw [hw2]; exact Held.new _ _ _ (by rw [hq]; simp)
  have BW : Below w.heap.size w w2 := by rw [hw2]; exact ((((Below.refl _ _).alloc (Nat.le_refl _) _).alloc (by simp) _).alloc (by simp; omega) _).alloc (by simp; omega) _
  have H2 := h.under BW
  obtain ⟨w3, hw3⟩ : ∃ w3, w3 = w2.drew := ⟨_, rfl⟩
  have U3 : Below w2.heap.size w2 w3 := by rw [hw3]; exact (Below.refl _ _).drew
  obtain ⟨C, hC⟩ : ∃ C, C = w3.heap.size := ⟨_, rfl⟩
  obtain ⟨w4, hw4⟩ : ∃ w4, w4 = w3.alloc (.cells #[.int .i64 0, .bool false] 82) := ⟨_, rfl⟩
  have U4 : Below w3.heap.size w3 w4 := by rw [hw4]; exact (Below.refl _ _).alloc (Nat.le_refl _) _
  have N4 : Held w4 C 82 #[.int .i64 0, .bool false] := by rw [hw4]; exact Held.new _ _ _ hC
  have B3 : Below w.heap.size w w3 := BW.trans (U3.mono BW.size)
  have B4 : Below w.heap.size w w4 := B3.trans (U4.mono B3.size)
  have TH3 := TH.below U3 TH.lt
  have KH3 := KH.below U3 KH.lt
  have VH3 := VH.below U3 VH.lt
  have FH3 := FH.below U3 FH.lt
  have CK := Lib.hid (fun g => check_ok w3 t p root (h.under B3).tree g)
  obtain ⟨g1, hg1⟩ : ∃ g, g = goodK k := ⟨_, rfl⟩
  have GK := Lib.hid (isGoodKey_any w3 k)
  rw [show decide (1 ≤ k.length ∧ k.length ≤ 128) = g1 from hg1.symm] at GK
  have H4 := h.under B4
  have TH4 := TH3.below U4 TH3.lt
  have KH4 := KH3.below U4 KH3.lt
  have VH4 := VH3.below U4 VH3.lt
  have FH4 := FH3.below U4 FH3.lt
  have G1 : Calls Tryd.prog 29 #[.pointer (some ⟨t, 0, none⟩), .string (strB k)] w4 fun x w' => GetR es k x ∧ Below w4.heap.size w4 w' := by
    obtain ⟨⟨d, ha⟩, hr, hn⟩ := tree_at.1 H4.lies
    exact get_any B w4 t p root n f H4.tree H4.mem d es bs ha (by have := deep d ha; omega) H4.ok hr k hk8
  have AT := Lib.hid (attempt_any 28 #[.pointer (some ⟨q, 0, none⟩), .pointer (some ⟨q + 1, 0, none⟩), .pointer (some ⟨q + 1 + 1, 0, none⟩), .pointer (some ⟨q + 1 + 1 + 1, 0, none⟩)] w3 (fun w5 => ∃ s b w1, GetR es k (.returned (.tuple #[.string s, .bool b])) ∧ Below w4.heap.size w4 w1 ∧ w5 = (w1.setCell ⟨q + 1 + 1, 0, none⟩ (.string s)).setCell ⟨q + 1 + 1 + 1, 0, none⟩ (.bool b)) (fun _ _ _ => False) (fun _ => rfl) (by
    rw [← hw4, ← hC]
    refine (get1_any w4 t es k q (q + 1) (q + 1 + 1) (q + 1 + 1 + 1) _ _ TH4 KH4 VH4 FH4 G1).mono ?_
    rintro x w5 ⟨rfl, s, b, w1, h1, h2, rfl⟩
    refine ⟨?_, .inl ⟨rfl, s, b, w1, h1, h2, rfl⟩⟩
    have T5 := N4.below h2 N4.lt
    exact (T5.far (p := ⟨q + 1 + 1, 0, none⟩) (Held.ne_ N4 VH4 (by decide)) _).far (p := ⟨q + 1 + 1 + 1, 0, none⟩) (Held.ne_ N4 FH4 (by decide)) _))
  rw [← hC] at AT
  have QQ : Hid (w.heap.size ≤ q ∧ w.heap.size ≤ C) := ⟨by omega, by rw [hC]; exact B3.size⟩
  have t0 := TH3.cell 0
  have k0 := KH3.cell 0
  have hs : w3.cell? ⟨q, 0, none⟩ = some (.pointer (some ⟨t, 0, none⟩)) ∧ w3.cell? ⟨q + 1, 0, none⟩ = some (.string (strB k)) := ⟨TH3.cell 0, KH3.cell 0⟩
  have tl := TH3.lt
  have kl := KH3.lt
  have HW2 := Lib.hid hw2
  have HW3 := Lib.hid hw3
  have HQ := Lib.hid hq
  have VV := Lib.hid VH3
  have FF := Lib.hid FH3
  have V4 := Lib.hid VH4
  have F4 := Lib.hid FH4
  have N44 := Lib.hid N4
  have B33 := Lib.hid B3
  have B44 := Lib.hid B4
  have HG1 := Lib.hid hg1
  clear hq hw2 hw3 hw4 hC hg1 U3 U4 N4 TH KH VH FH TH3 KH3 VH3 FH3 TH4 KH4 VH4 FH4 H2 H4 G1 B3 B4 BW h deep hk8
  go_enter Tryd.func13, Tryd.ntmps13
  go_upto_region 1 with fail
  rw [← HQ.out, ← HW2.out]
  refine wp_region_noPanic ?_
  refine wp_region_held_drew (S := fun w' => w'.cell? ⟨q, 0, none⟩ = some (.pointer (some ⟨t, 0, none⟩)) ∧ w'.cell? ⟨q + 1, 0, none⟩ = some (.string (strB k))) (by kernel_rfl) (by rw [← HW3.out]; exact hs) (fun hHeld => ?_)
  rw [← HW3.out]
  refine take_ (i := 0) (v := ?_) 9 rfl rfl (by kernel_rfl) (by kernel_rfl) (by kernel_rfl) (fun _ _ _ h => h) (Or.inl ⟨by rfl, ?_⟩) (by assumption) ?_
  rotate_left
  · (intro wS hSw; (try dsimp only at hSw); go_simp; try with_reducible rfl)
  simp only [Act.put, List.setIfInBounds_toArray]
  refine take_ (i := 1) (v := ?_) 10 rfl rfl (by kernel_rfl) (by kernel_rfl) (by kernel_rfl) (fun _ _ _ h => h) (Or.inl ⟨by rfl, ?_⟩) (by assumption) ?_
  rotate_left
  · (intro wS hSw; (try dsimp only at hSw); go_simp; try with_reducible rfl)
  simp only [Act.put, List.setIfInBounds_toArray]
  refine one_ (i := 2) _ (by kernel_rfl) rfl (fun K hK => ?_)
  go_simp
  refine GK.out.mono ?_
  rintro x w5 ⟨rfl, rfl⟩
  dsimp only
  have C0 := CK.out false
  have C1 := CK.out true
  simp only [Bool.false_eq_true, if_false, if_true] at C0 C1
  have C0 := Lib.hid C0
  have C1 := Lib.hid C1
  clear CK GK
  cases g1 with
  | false =>
    refine hK.out _ _ hs (fun hHeld => ?_)
    clear hK K
    refine one_ (i := 3) _ (by kernel_rfl) rfl (fun K hK => ?_)
    go_simp
    refine C0.out.mono ?_
    rintro x w5 ⟨rfl, rfl⟩
    dsimp only
    refine hK.out _ _ hs (fun hHeld => ?_)
    clear hK K
    refine take_ (i := 4) (v := ?_) 7 rfl rfl (by kernel_rfl) (by kernel_rfl) (by kernel_rfl) (fun _ _ _ h => h) (Or.inl ⟨by rfl, ?_⟩) (by assumption) ?_
    rotate_left
    · (intro wS hSw; (try dsimp only at hSw); go_simp; try with_reducible rfl)
    simp only [Act.put, List.setIfInBounds_toArray]
    refine wpAnyH_done (by kernel_rfl) ?_ _
    refine NoPanic.normal ?_
    have v0 := VV.out.cell 0
    have f0 := FF.out.cell 0
    have yv := VV.out.frozen 0
    have yf := FF.out.frozen 0
    have lv := VV.out.lt
    have lf := FF.out.lt
    go_wp2_with fail
    have V9 : Held ((w3.setCell ⟨q + 1 + 1, 0, none⟩ (.string ⟨#[]⟩)).setCell ⟨q + 1 + 1 + 1, 0, none⟩ (.bool false)) (q + 1 + 1) 9 #[.string ⟨#[]⟩] := (VV.out.set_ 0 _).far (p := ⟨q + 1 + 1 + 1, 0, none⟩) (Held.ne_ VV.out FF.out (by decide)) _
    have F9 : Held ((w3.setCell ⟨q + 1 + 1, 0, none⟩ (.string ⟨#[]⟩)).setCell ⟨q + 1 + 1 + 1, 0, none⟩ (.bool false)) (q + 1 + 1 + 1) 4 #[.bool false] := (FF.out.far (p := ⟨q + 1 + 1, 0, none⟩) (Held.ne_ FF.out VV.out (by decide)) _).set_ 0 _
    refine bodyPost_ret (res_two _ _ 4 5 6 9 4 _ _ _ _ _ Tryd.results13 rfl rfl rfl (load_one (Tryd.isAgg9 _) V9) (load_one (Tryd.isAgg4 _) F9)) rfl ⟨?_, ?_⟩
    · unfold GetA
      rw [← HG1.out]
      rfl
    · have h1 := QQ.out.1
      exact (B33.out.setCell (p := ⟨q + 1 + 1, 0, none⟩) (by show _ ≤ q + 1 + 1; omega) _).setCell (p := ⟨q + 1 + 1 + 1, 0, none⟩) (by show _ ≤ q + 1 + 1 + 1; omega) _
  | true =>
    refine hK.out _ _ hs (fun hHeld => ?_)
    clear hK K
    refine one_ (i := 3) _ (by kernel_rfl) rfl (fun K hK => ?_)
    go_simp
    refine C1.out.mono ?_
    rintro x w5 ⟨rfl, rfl⟩
    dsimp only
    refine hK.out _ _ hs (fun hHeld => ?_)
    clear hK K
    refine take_ (i := 4) (v := ?_) 7 rfl rfl (by kernel_rfl) (by kernel_rfl) (by kernel_rfl) (fun _ _ _ h => h) (Or.inl ⟨by rfl, ?_⟩) (by assumption) ?_
    rotate_left
    · (intro wS hSw; (try dsimp only at hSw); go_simp; try with_reducible rfl)
    simp only [Act.put, List.setIfInBounds_toArray]
    refine wpAnyH_done (by kernel_rfl) ?_ _
    refine NoPanic.normal ?_
    clear hs t0 k0 tl kl
    go_wp2_with fail
    refine AT.out.mono ?_
    rintro x w6 ⟨w5, ⟨⟨s, b, w1, hG, hB, rfl⟩, rfl, hw6⟩ | ⟨_, _, _, h, _⟩⟩
    · have h1 := QQ.out.1
      have V1 := V4.out.below hB V4.out.lt
      have F1 := F4.out.below hB F4.out.lt
      have N1 := N44.out.below hB N44.out.lt
      have n1 : q + 1 + 1 ≠ C := Held.ne_ V1 N1 (by decide)
      have n2 : q + 1 + 1 + 1 ≠ C := Held.ne_ F1 N1 (by decide)
      have V6 : Held w6 (q + 1 + 1) 9 #[.string s] := by rw [hw6]; exact (((V1.set_ 0 (.string s)).far (p := ⟨q + 1 + 1 + 1, 0, none⟩) (by simp) _).far (p := ⟨C, 0, none⟩) n1 _).far (p := ⟨C, 1, none⟩) n1 _
      have F6 : Held w6 (q + 1 + 1 + 1) 4 #[.bool b] := by rw [hw6]; exact (((F1.far (p := ⟨q + 1 + 1, 0, none⟩) (by simp) _).set_ 0 (.bool b)).far (p := ⟨C, 0, none⟩) n2 _).far (p := ⟨C, 1, none⟩) n2 _
      have B6 : Below w.heap.size w w6 := by
        rw [hw6]
        exact ((((B44.out.trans (hB.mono B44.out.size)).setCell (p := ⟨q + 1 + 1, 0, none⟩) (by show _ ≤ q + 1 + 1; omega) _).setCell (p := ⟨q + 1 + 1 + 1, 0, none⟩) (by show _ ≤ q + 1 + 1 + 1; omega) _).setCell (p := ⟨C, 0, none⟩) QQ.out.2 _).setCell (p := ⟨C, 1, none⟩) QQ.out.2 _
      obtain ⟨mb, hmb⟩ : ∃ mb, mb = w6.heap.size := ⟨_, rfl⟩
      obtain ⟨w7, hw7⟩ : ∃ w7, w7 = w6.alloc (.cells #[.int .i64 0, .bool false] 82) := ⟨_, rfl⟩
      have U7 : Below w6.heap.size w6 w7 := by rw [hw7]; exact (Below.refl _ _).alloc (Nat.le_refl _) _
      have N7 : Held w7 mb 82 #[.int .i64 0, .bool false] := by rw [hw7]; exact Held.new _ _ _ hmb
      have V7 := V6.below U7 V6.lt
      have F7 := F6.below U7 F6.lt
      have B7 : Below w.heap.size w w7 := B6.trans (U7.mono B6.size)
      have UD : Below w7.heap.size w7 w7.drew := (Below.refl _ _).drew
      have VD := V7.below UD V7.lt
      have FD := F7.below UD F7.lt
      have ND := N7.below UD N7.lt
      have BD : Below w.heap.size w w7.drew := B7.trans (UD.mono B7.size)
      obtain ⟨w8, hw8⟩ : ∃ w8, w8 = w7.drew := ⟨_, rfl⟩
      rw [← hw8] at VD FD ND BD
      have NVM : Hid (mb ≠ q + 1 + 1 ∧ mb ≠ q + 1 + 1 + 1) := ⟨Held.ne_ ND VD (by decide), Held.ne_ ND FD (by decide)⟩
      have NDD := Lib.hid ND
      have VDD := Lib.hid VD
      have FDD := Lib.hid FD
      have BDD := Lib.hid BD
      have s7 : w8.cell? ⟨q + 1 + 1, 0, none⟩ = some (.string s) ∧ w8.cell? ⟨q + 1 + 1 + 1, 0, none⟩ = some (.bool b) ∧ w8.cell? ⟨mb, 0, none⟩ = some (.int .i64 0) := ⟨VD.cell 0, FD.cell 0, ND.cell 0⟩
      have m0 := N7.cell 0
      have ml := N7.lt
      have HW7 := Lib.hid hw7
      have HMB := Lib.hid hmb
      have HW8 := Lib.hid hw8
      have GR := Lib.hid (GetA.of HG1.out.symm hG)
      clear hG hB hw6 V1 F1 N1 n1 n2 V6 F6 B6 hmb hw7 hw8 U7 N7 V7 F7 B7 UD VD FD ND BD AT
      go_upto_region 5 with fail
      rw [← HW7.out, ← HMB.out]
      have yv := VDD.out.frozen 0
      have yf := FDD.out.frozen 0
      have lv := VDD.out.lt
      have lf := FDD.out.lt
      refine wp_region_noPanic ?_
      refine wp_region_held_drew (S := fun w' => w'.cell? ⟨q + 1 + 1, 0, none⟩ = some (.string s) ∧ w'.cell? ⟨q + 1 + 1 + 1, 0, none⟩ = some (.bool b) ∧ w'.cell? ⟨mb, 0, none⟩ = some (.int .i64 0)) (by kernel_rfl) (by rw [← HW8.out]; exact s7) (fun hHeld => ?_)
      rw [← HW8.out]
      refine take_ (i := 0) (v := ?_) 18 rfl rfl (by kernel_rfl) (by kernel_rfl) (by kernel_rfl) (fun _ _ _ h => h) (Or.inl ⟨by rfl, ?_⟩) (by assumption) ?_
      rotate_left
      · (intro wS hSw; (try dsimp only at hSw); go_simp; try with_reducible rfl)
      simp only [Act.put, List.setIfInBounds_toArray]
      refine take_ (i := 1) (v := ?_) 19 rfl rfl (by kernel_rfl) (by kernel_rfl) (by kernel_rfl) (fun _ _ _ h => h) (Or.inl ⟨by rfl, ?_⟩) (by assumption) ?_
      rotate_left
      · (intro wS hSw; (try dsimp only at hSw); go_simp; try with_reducible rfl)
      simp only [Act.put, List.setIfInBounds_toArray]
      refine take_ (i := 2) (v := ?_) 20 rfl rfl (by kernel_rfl) (by kernel_rfl) (by kernel_rfl) (fun _ _ _ h => h) (Or.inl ⟨by rfl, ?_⟩) (by assumption) ?_
      rotate_left
      · (intro wS hSw; (try dsimp only at hSw); go_simp; try with_reducible rfl)
      simp only [Act.put, List.setIfInBounds_toArray]
      refine take_ (i := 3) (v := ?_) 21 rfl rfl (by kernel_rfl) (by kernel_rfl) (by kernel_rfl) (fun _ _ _ h => h) (Or.inl ⟨by rfl, ?_⟩) (by assumption) ?_
      rotate_left
      · (intro wS hSw; (try dsimp only at hSw); go_simp; try with_reducible rfl)
      simp only [Act.put, List.setIfInBounds_toArray]
      have NVF : q + 1 + 1 ≠ q + 1 + 1 + 1 := by omega
      have VA : Held (w8.setCell ⟨q + 1 + 1, 0, none⟩ (.string s)) (q + 1 + 1) 9 #[.string s] := VDD.out.set_ 0 _
      have FA : Held (w8.setCell ⟨q + 1 + 1, 0, none⟩ (.string s)) (q + 1 + 1 + 1) 4 #[.bool b] := FDD.out.far (p := ⟨q + 1 + 1, 0, none⟩) NVF.symm _
      have VB : Held ((w8.setCell ⟨q + 1 + 1, 0, none⟩ (.string s)).setCell ⟨q + 1 + 1 + 1, 0, none⟩ (.bool b)) (q + 1 + 1) 9 #[.string s] := VA.far (p := ⟨q + 1 + 1 + 1, 0, none⟩) NVF _
      have FB : Held ((w8.setCell ⟨q + 1 + 1, 0, none⟩ (.string s)).setCell ⟨q + 1 + 1 + 1, 0, none⟩ (.bool b)) (q + 1 + 1 + 1) 4 #[.bool b] := FA.set_ 0 _
      have NM : mb ≠ q + 1 + 1 ∧ mb ≠ q + 1 + 1 + 1 := ⟨NVM.out.1, NVM.out.2⟩
      have sA : (w8.setCell ⟨q + 1 + 1, 0, none⟩ (.string s)).cell? ⟨q + 1 + 1, 0, none⟩ = some (.string s) ∧ (w8.setCell ⟨q + 1 + 1, 0, none⟩ (.string s)).cell? ⟨q + 1 + 1 + 1, 0, none⟩ = some (.bool b) ∧ (w8.setCell ⟨q + 1 + 1, 0, none⟩ (.string s)).cell? ⟨mb, 0, none⟩ = some (.int .i64 0) := ⟨VA.cell 0, FA.cell 0, (NDD.out.far (p := ⟨q + 1 + 1, 0, none⟩) NM.1 _).cell 0⟩
      have sB : ((w8.setCell ⟨q + 1 + 1, 0, none⟩ (.string s)).setCell ⟨q + 1 + 1 + 1, 0, none⟩ (.bool b)).cell? ⟨q + 1 + 1, 0, none⟩ = some (.string s) ∧ ((w8.setCell ⟨q + 1 + 1, 0, none⟩ (.string s)).setCell ⟨q + 1 + 1 + 1, 0, none⟩ (.bool b)).cell? ⟨q + 1 + 1 + 1, 0, none⟩ = some (.bool b) ∧ ((w8.setCell ⟨q + 1 + 1, 0, none⟩ (.string s)).setCell ⟨q + 1 + 1 + 1, 0, none⟩ (.bool b)).cell? ⟨mb, 0, none⟩ = some (.int .i64 0) := ⟨VB.cell 0, FB.cell 0, ((NDD.out.far (p := ⟨q + 1 + 1, 0, none⟩) NM.1 _).far (p := ⟨q + 1 + 1 + 1, 0, none⟩) NM.2 _).cell 0⟩
      have ya := FA.frozen 0
      have la := FA.lt
      have VBB := Lib.hid VB
      have FBB := Lib.hid FB
      clear VA FA VB FB
      refine one_ (i := 4) _ (by kernel_rfl) rfl (fun K hK => ?_)
      go_simp
      refine hK.out _ _ sA (fun hHeld => ?_)
      clear hK K
      refine one_ (i := 5) _ (by kernel_rfl) rfl (fun K hK => ?_)
      go_simp
      refine hK.out _ _ sB (fun hHeld => ?_)
      clear hK K
      refine take_ (i := 6) (v := ?_) 6 rfl rfl (by kernel_rfl) (by kernel_rfl) (by kernel_rfl) (fun _ _ _ h => h) (Or.inl ⟨by rfl, ?_⟩) (by assumption) ?_
      rotate_left
      · (intro wS hSw; (try dsimp only at hSw); go_simp; try with_reducible rfl)
      simp only [Act.put, List.setIfInBounds_toArray]
      refine wpAnyH_done (by kernel_rfl) ?_ _
      refine NoPanic.normal ?_
      go_wp2_with fail
      refine bodyPost_ret (res_two _ _ 4 5 6 9 4 _ _ _ _ _ Tryd.results13 rfl rfl rfl (load_one (Tryd.isAgg9 _) VBB.out) (load_one (Tryd.isAgg4 _) FBB.out)) rfl ⟨GR.out, ?_⟩
      have h1 := QQ.out.1
      exact (BDD.out.setCell (p := ⟨q + 1 + 1, 0, none⟩) (by show _ ≤ q + 1 + 1; omega) _).setCell (p := ⟨q + 1 + 1 + 1, 0, none⟩) (by show _ ≤ q + 1 + 1 + 1; omega) _
    · exact h.elim
end Go.Proofs.YtnogmgnbhcmajaaDoor

namespace Go.Proofs.YtnogmgnbhcmajaaDoor
open Go.RowKit Wal

set_option maxRecDepth 100000 in
set_option maxHeartbeats 1600000 in
theorem scan1_any (w : World) (t p root : Nat) (res : List En) (k : List Nat) (most : Nat) (tb kb mb vb : Nat) (v0 : Value) (hto : TreeO w t p root) (ht : Held w tb 40 #[.pointer (some ⟨t, 0, none⟩)]) (hk : Held w kb 9 #[.string (strB k)]) (hm : Held w mb 3 #[.int .i64 (most : Int)]) (hv : Held w vb 47 #[v0])
    (h : ∀ w2, Below w.heap.size w w2 → Calls Tryd.prog 33 #[.pointer (some ⟨t, 0, none⟩), spV root 0 [] [], .string (strB k), .int .i64 (most : Int), .slice none 0 0] w2 (ScanE w2 w2 res)) :
    Calls Tryd.prog 32 #[.pointer (some ⟨tb, 0, none⟩), .pointer (some ⟨kb, 0, none⟩), .pointer (some ⟨mb, 0, none⟩), .pointer (some ⟨vb, 0, none⟩)] w fun x w' => x = .returned (.tuple #[]) ∧ ∃ v w1, OwnP w1 w.heap.size v res ∧ Below w.heap.size w w1 ∧ w' = w1.setCell ⟨vb, 0, none⟩ v := by
  obtain ⟨w1, hw1⟩ : ∃ w1, w1 = w.drew := ⟨_, rfl⟩
  have U1 : Hid (Below w.heap.size w w1) := by rw [hw1]; exact (Below.refl _ _).drew
  have TH := Lib.hid (ht.below U1.out ht.lt)
  have KH := Lib.hid (hk.below U1.out hk.lt)
  have MH := Lib.hid (hm.below U1.out hm.lt)
  have VH := Lib.hid (hv.below U1.out hv.lt)
  have TP := Lib.hid (top_any w1 t p root (hto.below U1.out))
  have SC := Lib.hid h
  have s1 : w1.cell? ⟨tb, 0, none⟩ = some (.pointer (some ⟨t, 0, none⟩)) ∧ w1.cell? ⟨kb, 0, none⟩ = some (.string (strB k)) ∧ w1.cell? ⟨mb, 0, none⟩ = some (.int .i64 (most : Int)) := ⟨TH.out.cell 0, KH.out.cell 0, MH.out.cell 0⟩
  have HW1 := Lib.hid hw1
  clear hto ht hk hm hv h hw1
  unfold spV at *
  go_enter Tryd.func32, Tryd.ntmps32
  refine wp_region_noPanic ?_
  refine wp_region_held_drew (S := fun w' => w'.cell? ⟨tb, 0, none⟩ = some (.pointer (some ⟨t, 0, none⟩)) ∧ w'.cell? ⟨kb, 0, none⟩ = some (.string (strB k)) ∧ w'.cell? ⟨mb, 0, none⟩ = some (.int .i64 (most : Int))) (by kernel_rfl) (by rw [← HW1.out]; exact s1) (fun hHeld => ?_)
  rw [← HW1.out]
  refine take_ (i := 0) (v := ?_) 4 rfl rfl (by kernel_rfl) (by kernel_rfl) (by kernel_rfl) (fun _ _ _ h => h) (Or.inl ⟨by rfl, ?_⟩) (by assumption) ?_
  rotate_left
  · (intro wS hSw; (try dsimp only at hSw); go_simp; try with_reducible rfl)
  simp only [Act.put, List.setIfInBounds_toArray]
  refine take_ (i := 1) (v := ?_) 5 rfl rfl (by kernel_rfl) (by kernel_rfl) (by kernel_rfl) (fun _ _ _ h => h) (Or.inl ⟨by rfl, ?_⟩) (by assumption) ?_
  rotate_left
  · (intro wS hSw; (try dsimp only at hSw); go_simp; try with_reducible rfl)
  simp only [Act.put, List.setIfInBounds_toArray]
  refine take_ (i := 3) (v := ?_) 7 rfl rfl (by kernel_rfl) (by kernel_rfl) (by kernel_rfl) (fun _ _ _ h => h) (Or.inl ⟨by rfl, ?_⟩) (by assumption) ?_
  rotate_left
  · (intro wS hSw; (try dsimp only at hSw); go_simp; try with_reducible rfl)
  simp only [Act.put, List.setIfInBounds_toArray]
  refine take_ (i := 4) (v := ?_) 8 rfl rfl (by kernel_rfl) (by kernel_rfl) (by kernel_rfl) (fun _ _ _ h => h) (Or.inl ⟨by rfl, ?_⟩) (by assumption) ?_
  rotate_left
  · (intro wS hSw; (try dsimp only at hSw); go_simp; try with_reducible rfl)
  simp only [Act.put, List.setIfInBounds_toArray]
  refine one_ (i := 2) _ (by kernel_rfl) rfl (fun K hK => ?_)
  go_simp
  refine TP.out.mono ?_
  rintro x w2 ⟨rfl, hb2⟩
  dsimp only
  have B2 : Hid (Below w.heap.size w w2) := U1.out.trans (hb2.mono U1.out.size)
  have s2 : w2.cell? ⟨tb, 0, none⟩ = some (.pointer (some ⟨t, 0, none⟩)) ∧ w2.cell? ⟨kb, 0, none⟩ = some (.string (strB k)) ∧ w2.cell? ⟨mb, 0, none⟩ = some (.int .i64 (most : Int)) := ⟨(TH.out.below hb2 TH.out.lt).cell 0, (KH.out.below hb2 KH.out.lt).cell 0, (MH.out.below hb2 MH.out.lt).cell 0⟩
  have V2 := Lib.hid (VH.out.below hb2 VH.out.lt)
  have T2 := Lib.hid (TH.out.below hb2 TH.out.lt)
  have K2 := Lib.hid (KH.out.below hb2 KH.out.lt)
  have M2 := Lib.hid (MH.out.below hb2 MH.out.lt)
  clear hb2 TP s1
  refine hK.out _ _ s2 (fun hHeld => ?_)
  clear hK K
  refine one_ (i := 5) _ (by kernel_rfl) rfl (fun K hK => ?_)
  go_simp
  refine (SC.out w2 B2.out).mono ?_
  rintro x w3 ⟨v, rfl, hO, hK⟩
  dsimp only
  have U3 : Below w2.heap.size w2 w3 := hK.below (Nat.le_refl _)
  have V3 := Lib.hid (V2.out.below U3 V2.out.lt)
  have T3 := T2.out.below U3 T2.out.lt
  have K3 := K2.out.below U3 K2.out.lt
  have M3 := M2.out.below U3 M2.out.lt
  have s3 : w3.cell? ⟨tb, 0, none⟩ = some (.pointer (some ⟨t, 0, none⟩)) ∧ w3.cell? ⟨kb, 0, none⟩ = some (.string (strB k)) ∧ w3.cell? ⟨mb, 0, none⟩ = some (.int .i64 (most : Int)) := ⟨T3.cell 0, K3.cell 0, M3.cell 0⟩
  obtain ⟨A3, m3, c3, rfl⟩ : ∃ A m c, v = .slice A m c := by
    obtain ⟨A, c, e, _⟩ := hO.any
    exact ⟨A, _, c, e⟩
  have O3 : Hid (OwnP w3 w.heap.size (.slice A3 m3 c3) res) := ⟨hO.1, hO.2.imp id fun ⟨g, cap, cur, a1, a2, a3⟩ => ⟨g, cap, cur, a1, Nat.le_trans B2.out.size a2, a3⟩⟩
  have B3 : Hid (Below w.heap.size w w3) := B2.out.trans (U3.mono B2.out.size)
  have n1 := Held.ne_ T3 V3.out (by decide)
  have n2 := Held.ne_ K3 V3.out (by decide)
  have n3 := Held.ne_ M3 V3.out (by decide)
  have s4 : (w3.setCell ⟨vb, 0, none⟩ (.slice A3 m3 c3)).cell? ⟨tb, 0, none⟩ = some (.pointer (some ⟨t, 0, none⟩)) ∧ (w3.setCell ⟨vb, 0, none⟩ (.slice A3 m3 c3)).cell? ⟨kb, 0, none⟩ = some (.string (strB k)) ∧ (w3.setCell ⟨vb, 0, none⟩ (.slice A3 m3 c3)).cell? ⟨mb, 0, none⟩ = some (.int .i64 (most : Int)) := ⟨(T3.far (p := ⟨vb, 0, none⟩) n1 _).cell 0, (K3.far (p := ⟨vb, 0, none⟩) n2 _).cell 0, (M3.far (p := ⟨vb, 0, none⟩) n3 _).cell 0⟩
  have v0 := V3.out.cell 0
  have y0 := V3.out.frozen 0
  have l0 := V3.out.lt
  clear hO hK U3 T3 K3 M3 n1 n2 n3 SC
  refine hK.out _ _ s3 (fun hHeld => ?_)
  clear hK K
  refine one_ (i := 6) _ (by kernel_rfl) rfl (fun K hK => ?_)
  go_simp
  refine hK.out _ _ s4 (fun hHeld => ?_)
  clear hK K
  refine wpAnyH_done (by kernel_rfl) ?_ _
  refine NoPanic.normal ?_
  go_wp2_with fail
  go_end0
  exact ⟨rfl, _, w3, O3.out, B3.out, rfl⟩
/-- Scan's answer. -/
def ScanA (es : List En) (k : List Nat) (most : Int) (w : World) (x : Ending) (w' : World) : Prop :=
  ∃ v, x = .returned (.tuple #[v, .int .i64 0]) ∧ OwnP w' w.heap.size v ((fromE es k).take most.toNat) ∧ Below w.heap.size w w'
set_option maxRecDepth 100000 in
set_option maxHeartbeats 1600000 in
theorem tscan_any (B : Nat) (w : World) (t p root n : Nat) (f : Nat → Option KB) (es : List En) (bs : List Nat) (h : LiveT B w t p root n f es bs) (deep : Deep f root es bs) (hl : es.length ≤ 50000) (k : List Nat) (hk8 : ∀ x ∈ k, x < 256) (most : Int) (hlo : -9223372036854775808 ≤ most) (hhi : most ≤ 9223372036854775807) :
    Calls Tryd.prog 15 #[.pointer (some ⟨t, 0, none⟩), .string (strB k), .int .i64 most] w (ScanA es k most w) := by
  obtain ⟨q, hq⟩ : ∃ q, q = w.heap.size := ⟨_, rfl⟩
  obtain ⟨w2, hw2⟩ : ∃ w2, w2 = (((w.alloc (.cells #[.pointer (some ⟨t, 0, none⟩)] 40)).alloc (.cells #[.string (strB k)] 9)).alloc (.cells #[.int .i64 most] 3)).alloc (.cells #[.slice none 0 0] 47) := ⟨_, rfl⟩
  have TH : Held w2 q 40 #[.pointer (some ⟨t, 0, none⟩)] := by rw [hw2]; exact (((Held.new _ _ _ hq).alloc _).alloc _).alloc _
  have KH : Held w2 (q + 1) 9 #[.string (strB k)] := by rw [hw2]; exact ((Held.new _ _ _ (by rw [hq]; simp)).alloc _).alloc _
  have MH : Held w2 (q + 1 + 1) 3 #[.int .i64 most] := by rw [hw2]; exact (Held.new _ _ _ (by rw [hq]; simp)).alloc _
  have VH : Held w2 (q + 1 + 1 + 1) 47 #[.slice none 0 0] := by rw [hw2]; exact Held.new _ _ _ (by rw [hq]; simp)
  have BW : Below w.heap.size w w2 := by rw [hw2]; exact ((((Below.refl _ _).alloc (Nat.le_refl _) _).alloc (by simp) _).alloc (by simp; omega) _).alloc (by simp; omega) _
  have H2 := h.under BW
  obtain ⟨C, hC⟩ : ∃ C, C = w2.heap.size := ⟨_, rfl⟩
  obtain ⟨w4, hw4⟩ : ∃ w4, w4 = w2.alloc (.cells #[.int .i64 0, .bool false] 82) := ⟨_, rfl⟩
  have U4 : Below w2.heap.size w2 w4 := by rw [hw4]; exact (Below.refl _ _).alloc (Nat.le_refl _) _
  have N4 : Held w4 C 82 #[.int .i64 0, .bool false] := by rw [hw4]; exact Held.new _ _ _ hC
  have B4 : Below w.heap.size w w4 := BW.trans (U4.mono BW.size)
  have CK := check_ok w2 t p root H2.tree true
  simp only [if_true] at CK
  have CK := Lib.hid CK
  have H4 := h.under B4
  have TH4 := TH.below U4 TH.lt
  have KH4 := KH.below U4 KH.lt
  have MH4 := MH.below U4 MH.lt
  have VH4 := VH.below U4 VH.lt
  have AT : Hid (0 < most → Calls Tryd.prog 27 #[.func (.func 32) #[] #[.pointer (some ⟨q, 0, none⟩), .pointer (some ⟨q + 1, 0, none⟩), .pointer (some ⟨q + 1 + 1, 0, none⟩), .pointer (some ⟨q + 1 + 1 + 1, 0, none⟩)]] w2 fun e w6 => ∃ v w1, OwnP w1 w.heap.size v ((fromE es k).take most.toNat) ∧ Below w4.heap.size w4 w1 ∧ e = .returned (.agg #[.int .i64 0, .bool false]) ∧ w6 = ((w1.setCell ⟨q + 1 + 1 + 1, 0, none⟩ v).setCell ⟨C, 0, none⟩ (.int .i64 0)).setCell ⟨C, 1, none⟩ (.bool false)) := fun hpos => by
    obtain ⟨⟨d, ha⟩, hr, hn⟩ := tree_at.1 H4.lies
    have em : most = ((most.toNat : Nat) : Int) := by omega
    have S1 := scan1_any w4 t p root ((fromE es k).take most.toNat) k most.toNat q (q + 1) (q + 1 + 1) (q + 1 + 1 + 1) _ H4.tree TH4 KH4 (by rw [← em]; exact MH4) VH4 (fun w5 hb => by
      have := scan_any B w5 t p root n f (H4.tree.below hb) (H4.mem.under hb) k hk8 most.toNat (by omega) (by omega) d w5 (KpS.refl _ _ _) root es bs 0 [] [] ⟨ha, by have := deep d ha; omega, H4.ok, hr, .inl rfl, .inl rfl, .inl rfl, by simp⟩ (.slice none 0 0) [] (OwnP.nil _ _) (Nat.zero_le _) (by simpa using hl)
      rw [List.nil_append] at this
      exact this)
    refine (attempt_any 32 #[.pointer (some ⟨q, 0, none⟩), .pointer (some ⟨q + 1, 0, none⟩), .pointer (some ⟨q + 1 + 1, 0, none⟩), .pointer (some ⟨q + 1 + 1 + 1, 0, none⟩)] w2 (fun w5 => ∃ v w1, OwnP w1 w.heap.size v ((fromE es k).take most.toNat) ∧ Below w4.heap.size w4 w1 ∧ w5 = w1.setCell ⟨q + 1 + 1 + 1, 0, none⟩ v) (fun _ _ _ => False) (fun _ => rfl) (by
      rw [← hw4, ← hC]
      refine S1.mono ?_
      rintro x w5 ⟨rfl, v, w1, h1, h2, rfl⟩
      refine ⟨(N4.below h2 N4.lt).far (p := ⟨q + 1 + 1 + 1, 0, none⟩) (Held.ne_ N4 VH4 (by decide)) _, .inl ⟨rfl, v, w1, ?_, h2, rfl⟩⟩
      exact ⟨h1.1, h1.2.imp id fun ⟨g, cap, cur, a1, a2, a3⟩ => ⟨g, cap, cur, a1, Nat.le_trans B4.size a2, a3⟩⟩)).mono ?_
    rw [← hC]
    rintro x w6 ⟨w5, ⟨⟨v, w1, h1, h2, rfl⟩, rfl, rfl⟩ | ⟨_, _, _, h, _⟩⟩
    · exact ⟨v, w1, h1, h2, rfl, rfl⟩
    · exact h.elim
  have QQ : Hid (w.heap.size ≤ q ∧ w.heap.size ≤ C) := ⟨by omega, by rw [hC]; exact BW.size⟩
  have t0 := TH.cell 0
  have m0 := MH.cell 0
  have tl := TH.lt
  have ml := MH.lt
  have HW2 := Lib.hid hw2
  have HQ := Lib.hid hq
  have VV := Lib.hid VH
  have V4 := Lib.hid VH4
  have N44 := Lib.hid N4
  have B22 := Lib.hid BW
  have B44 := Lib.hid B4
  clear hq hw2 hw4 hC U4 N4 TH KH VH MH TH4 KH4 VH4 MH4 H2 H4 B4 BW h deep hk8 hl
  go_enter Tryd.func15, Tryd.ntmps15
  go_upto_region 1 with fail
  rw [← HQ.out, ← HW2.out]
  go_wp2_with fail
  refine CK.out.mono ?_
  rintro x w3 ⟨rfl, rfl⟩
  rcases Int.lt_or_le 0 most with hp | hp
  · have ML : ¬ most ≤ 0 := by omega
    have A2 := Lib.hid (AT.out hp)
    clear AT CK
    go_wp2_with fail
    refine A2.out.mono ?_
    rintro x w6 ⟨v, w1, hO, hB, rfl, hw6⟩
    obtain ⟨A3, m3, c3, rfl⟩ : ∃ A m c, v = .slice A m c := by
      obtain ⟨A, c, e, _⟩ := hO.any
      exact ⟨A, _, c, e⟩
    have h1 := QQ.out.1
    have V1 := V4.out.below hB V4.out.lt
    have N1 := N44.out.below hB N44.out.lt
    have n1 : q + 1 + 1 + 1 ≠ C := Held.ne_ V1 N1 (by decide)
    have V6 : Held w6 (q + 1 + 1 + 1) 47 #[.slice A3 m3 c3] := by rw [hw6]; exact ((V1.set_ 0 (.slice A3 m3 c3)).far (p := ⟨C, 0, none⟩) n1 _).far (p := ⟨C, 1, none⟩) n1 _
    have B6 : Below w.heap.size w w6 := by
      rw [hw6]
      exact (((B44.out.trans (hB.mono B44.out.size)).setCell (p := ⟨q + 1 + 1 + 1, 0, none⟩) (by show _ ≤ q + 1 + 1 + 1; omega) _).setCell (p := ⟨C, 0, none⟩) QQ.out.2 _).setCell (p := ⟨C, 1, none⟩) QQ.out.2 _
    have KS : KpS [47, 82] 0 w1 w6 := by
      rw [hw6]
      have q1 := (KpS.refl [47, 82] 0 w1).set_ V1 (by simp) (Nat.zero_le _) 0 (.slice A3 m3 c3)
      have q2 := q1.set_ (N1.far (p := ⟨q + 1 + 1 + 1, 0, none⟩) n1.symm _) (by simp) (Nat.zero_le _) 0 (.int .i64 0)
      exact q2.set_ ((N1.far (p := ⟨q + 1 + 1 + 1, 0, none⟩) n1.symm _).set_ 0 _) (by simp) (Nat.zero_le _) 1 (.bool false)
    have O6 : OwnP w6 w.heap.size (.slice A3 m3 c3) ((fromE es k).take most.toNat) := KS.row hO (by decide)
    obtain ⟨mb, hmb⟩ : ∃ mb, mb = w6.heap.size := ⟨_, rfl⟩
    obtain ⟨w7, hw7⟩ : ∃ w7, w7 = w6.alloc (.cells #[.int .i64 0, .bool false] 82) := ⟨_, rfl⟩
    have U7 : Below w6.heap.size w6 w7 := by rw [hw7]; exact (Below.refl _ _).alloc (Nat.le_refl _) _
    have N7 : Held w7 mb 82 #[.int .i64 0, .bool false] := by rw [hw7]; exact Held.new _ _ _ hmb
    have V7 := V6.below U7 V6.lt
    have B7 : Below w.heap.size w w7 := B6.trans (U7.mono B6.size)
    have UD : Below w7.heap.size w7 w7.drew := (Below.refl _ _).drew
    have VD := V7.below UD V7.lt
    have ND := N7.below UD N7.lt
    have BD : Below w.heap.size w w7.drew := B7.trans (UD.mono B7.size)
    have OD : OwnP w7.drew w.heap.size (.slice A3 m3 c3) ((fromE es k).take most.toNat) := (O6.below_ U7).below_ UD
    obtain ⟨w8, hw8⟩ : ∃ w8, w8 = w7.drew := ⟨_, rfl⟩
    rw [← hw8] at VD ND BD OD
    have NM : mb ≠ q + 1 + 1 + 1 := Held.ne_ ND VD (by decide)
    have VDD := Lib.hid VD
    have BDD := Lib.hid BD
    have ODD := Lib.hid OD
    have s7 : w8.cell? ⟨q + 1 + 1 + 1, 0, none⟩ = some (.slice A3 m3 c3) ∧ w8.cell? ⟨mb, 0, none⟩ = some (.int .i64 0) := ⟨VD.cell 0, ND.cell 0⟩
    have VB : Held (w8.setCell ⟨q + 1 + 1 + 1, 0, none⟩ (.slice A3 m3 c3)) (q + 1 + 1 + 1) 47 #[.slice A3 m3 c3] := VD.set_ 0 _
    have s8 : (w8.setCell ⟨q + 1 + 1 + 1, 0, none⟩ (.slice A3 m3 c3)).cell? ⟨q + 1 + 1 + 1, 0, none⟩ = some (.slice A3 m3 c3) ∧ (w8.setCell ⟨q + 1 + 1 + 1, 0, none⟩ (.slice A3 m3 c3)).cell? ⟨mb, 0, none⟩ = some (.int .i64 0) := ⟨VB.cell 0, (ND.far (p := ⟨q + 1 + 1 + 1, 0, none⟩) NM _).cell 0⟩
    have VBB := Lib.hid VB
    have FIN : Hid (OwnP (w8.setCell ⟨q + 1 + 1 + 1, 0, none⟩ (.slice A3 m3 c3)) w.heap.size (.slice A3 m3 c3) ((fromE es k).take most.toNat)) := ((KpS.refl [47] 0 w8).set_ VD (by simp) (Nat.zero_le _) 0 _).row OD (by decide)
    have HW7 := Lib.hid hw7
    have HMB := Lib.hid hmb
    have HW8 := Lib.hid hw8
    clear hO hB hw6 V1 N1 n1 V6 B6 KS O6 hmb hw7 hw8 U7 N7 V7 B7 UD VD ND BD OD A2 VB NM
    go_upto_region 5 with fail
    rw [← HW7.out, ← HMB.out]
    have yv := VDD.out.frozen 0
    have lv := VDD.out.lt
    refine wp_region_noPanic ?_
    refine wp_region_held_drew (S := fun w' => w'.cell? ⟨q + 1 + 1 + 1, 0, none⟩ = some (.slice A3 m3 c3) ∧ w'.cell? ⟨mb, 0, none⟩ = some (.int .i64 0)) (by kernel_rfl) (by rw [← HW8.out]; exact s7) (fun hHeld => ?_)
    rw [← HW8.out]
    refine take_ (i := 0) (v := ?_) 21 rfl rfl (by kernel_rfl) (by kernel_rfl) (by kernel_rfl) (fun _ _ _ h => h) (Or.inl ⟨by rfl, ?_⟩) (by assumption) ?_
    rotate_left
    · (intro wS hSw; (try dsimp only at hSw); go_simp; try with_reducible rfl)
    simp only [Act.put, List.setIfInBounds_toArray]
    refine take_ (i := 1) (v := ?_) 22 rfl rfl (by kernel_rfl) (by kernel_rfl) (by kernel_rfl) (fun _ _ _ h => h) (Or.inl ⟨by rfl, ?_⟩) (by assumption) ?_
    rotate_left
    · (intro wS hSw; (try dsimp only at hSw); go_simp; try with_reducible rfl)
    simp only [Act.put, List.setIfInBounds_toArray]
    refine take_ (i := 2) (v := ?_) 23 rfl rfl (by kernel_rfl) (by kernel_rfl) (by kernel_rfl) (fun _ _ _ h => h) (Or.inl ⟨by rfl, ?_⟩) (by assumption) ?_
    rotate_left
    · (intro wS hSw; (try dsimp only at hSw); go_simp; try with_reducible rfl)
    simp only [Act.put, List.setIfInBounds_toArray]
    refine one_ (i := 3) _ (by kernel_rfl) rfl (fun K hK => ?_)
    go_simp
    refine hK.out _ _ s8 (fun hHeld => ?_)
    clear hK K
    refine take_ (i := 4) (v := ?_) 7 rfl rfl (by kernel_rfl) (by kernel_rfl) (by kernel_rfl) (fun _ _ _ h => h) (Or.inl ⟨by rfl, ?_⟩) (by assumption) ?_
    rotate_left
    · (intro wS hSw; (try dsimp only at hSw); go_simp; try with_reducible rfl)
    simp only [Act.put, List.setIfInBounds_toArray]
    refine wpAnyH_done (by kernel_rfl) ?_ _
    refine NoPanic.normal ?_
    go_wp2_with fail
    refine bodyPost_ret (res_cellB _ _ 7 6 47 _ _ _ Tryd.results15 rfl rfl (load_one (Tryd.isAgg47 _) VBB.out)) rfl ⟨_, rfl, FIN.out, ?_⟩
    have h1 := QQ.out.1
    exact BDD.out.setCell (p := ⟨q + 1 + 1 + 1, 0, none⟩) (by show _ ≤ q + 1 + 1 + 1; omega) _
  · clear AT CK
    have v0 := VV.out.cell 0
    have yv := VV.out.frozen 0
    have lv := VV.out.lt
    have VB : Held (w2.setCell ⟨q + 1 + 1 + 1, 0, none⟩ (.slice none 0 0)) (q + 1 + 1 + 1) 47 #[.slice none 0 0] := VV.out.set_ 0 _
    have VBB := Lib.hid VB
    have e0 : (fromE es k).take most.toNat = [] := by rw [show most.toNat = 0 by omega, List.take_zero]
    have E0 := Lib.hid e0
    clear VB e0
    go_wp2_with fail
    refine bodyPost_ret (res_cellB _ _ 7 6 47 _ _ _ Tryd.results15 rfl rfl (load_one (Tryd.isAgg47 _) VBB.out)) rfl ⟨_, rfl, by rw [E0.out]; exact OwnP.nil _ _, ?_⟩
    have h1 := QQ.out.1
    exact B22.out.setCell (p := ⟨q + 1 + 1 + 1, 0, none⟩) (by show _ ≤ q + 1 + 1 + 1; omega) _
end Go.Proofs.YtnogmgnbhcmajaaDoor
