/-
  uri: follow.
-/
import Derived.Test.YtpnmddealjoiiaaDoorU24
import Derived.Test.YtpnmddealjoiiaaDoorReg
namespace Go.Proofs.YtpnmddealjoiiaaDoor
open Go.RowKit Go.Shelf Uri

attribute [local go_sem] Oper.semAt_some

/-- What follow answers of the bytes l. -/
def WalkE (l : List Nat) (e : Ending) (w' : World) : Prop :=
  ∃ A D c dir err, e = .returned (.tuple #[.slice A (D : List ByteArray).length c, .bool dir, .int .i64 err]) ∧ D.length ≤ c ∧ Strs w' A D.length D ∧ Uri.walk (pieces l) [] false = (txts D, dir, err)
/-- The walk has come to its k-th piece. -/
def Goes (w : World) (h : Nat) (l : List Nat) (D : List ByteArray) (k : Nat) (W : World) : Prop :=
  ∃ P d, Fol w h P d W ∧ h + 8 ≤ W.heap.size ∧ P.length ≤ k ∧ Uri.walk (pieces l) [] false = Uri.walk (txts (D.drop k)) (txts P) d
/-- It has ended without a path. -/
def Ends (w : World) (h : Nat) (l : List Nat) (W : World) : Prop := ∃ err : Int, Res w h (.slice none 0 0) (.bool false) (.int .i64 err) W ∧ Uri.walk (pieces l) [] false = ([], false, err)
theorem Goes.bar {w W W' : World} {h k : Nat} {l : List Nat} {D : List ByteArray} (g : Goes w h l D k W) (b : Bar (h + 8) (h + 5) W W') : Goes w h l D k W' := by
  obtain ⟨P, d, h1, h2, h3, h4⟩ := g
  exact ⟨P, d, h1.bar b, by have := b.2.2.2.1; omega, h3, h4⟩
theorem Ends.bar {w W W' : World} {h : Nat} {l : List Nat} (g : Ends w h l W) (b : Bar (h + 8) (h + 5) W W') : Ends w h l W' := by
  obtain ⟨err, h1, h2⟩ := g
  exact ⟨err, h1.bar b, h2⟩
theorem fol_new (w : World) : Fol w w.heap.size [] false (((((w.alloc (Obj.cells #[Value.slice none 0 0] 23)).alloc (Obj.cells #[Value.bool false] 4)).alloc (Obj.cells #[Value.int IntKind.i64 0] 24)).alloc
    (.cells #[.string ⟨#[]⟩, .string ⟨#[]⟩, .string ⟨#[]⟩, .string ⟨#[]⟩, .string ⟨#[]⟩, .string ⟨#[]⟩, .string ⟨#[]⟩, .string ⟨#[]⟩, .string ⟨#[]⟩, .string ⟨#[]⟩, .string ⟨#[]⟩, .string ⟨#[]⟩, .int .i64 0] 53)).alloc (Obj.cells #[Value.bool false] 4)) := by
  obtain ⟨W1, e1⟩ : ∃ W1, W1 = w.alloc (Obj.cells #[Value.slice none 0 0] 23) := ⟨_, rfl⟩
  obtain ⟨W2, e2⟩ : ∃ W2, W2 = W1.alloc (Obj.cells #[Value.bool false] 4) := ⟨_, rfl⟩
  obtain ⟨W3, e3⟩ : ∃ W3, W3 = W2.alloc (Obj.cells #[Value.int IntKind.i64 0] 24) := ⟨_, rfl⟩
  have s1 : W1.heap.size = w.heap.size + 1 := by rw [e1]; exact World.size_alloc _ _
  have s2 : W2.heap.size = w.heap.size + 2 := by rw [e2, World.size_alloc, s1]
  have s3 : W3.heap.size = w.heap.size + 3 := by rw [e3, World.size_alloc, s2]
  have t1 := TrailAt.new W3 (w.heap.size + 3) s3.symm
  rw [← e1, ← e2, ← e3]
  obtain ⟨W4, e4⟩ : ∃ W4, W4 = W3.alloc (.cells #[.string ⟨#[]⟩, .string ⟨#[]⟩, .string ⟨#[]⟩, .string ⟨#[]⟩, .string ⟨#[]⟩, .string ⟨#[]⟩, .string ⟨#[]⟩, .string ⟨#[]⟩, .string ⟨#[]⟩, .string ⟨#[]⟩, .string ⟨#[]⟩, .string ⟨#[]⟩, .int .i64 0] 53) := ⟨_, rfl⟩
  have s4 : W4.heap.size = w.heap.size + 4 := by rw [e4, World.size_alloc, s3]
  rw [← e4] at t1 ⊢
  have b1 : Below w.heap.size w W1 := by rw [e1]; exact (Below.refl _ _).alloc (Nat.le_refl _) _
  have b2 : Below W1.heap.size W1 W2 := by rw [e2]; exact (Below.refl _ _).alloc (Nat.le_refl _) _
  have b3 : Below W2.heap.size W2 W3 := by rw [e3]; exact (Below.refl _ _).alloc (Nat.le_refl _) _
  have b4 : Below W3.heap.size W3 W4 := by rw [e4]; exact (Below.refl _ _).alloc (Nat.le_refl _) _
  have b5 : Below W4.heap.size W4 (W4.alloc (Obj.cells #[Value.bool false] 4)) := (Below.refl _ _).alloc (Nat.le_refl _) _
  have h1 : W1.heap[w.heap.size]? = some (.cells #[Value.slice none 0 0] 23 (0, 0)) := by rw [e1]; exact World.alloc_heap_new w _
  have h2 : W2.heap[w.heap.size + 1]? = some (.cells #[Value.bool false] 4 (0, 0)) := by rw [e2, ← s1]; exact World.alloc_heap_new W1 _
  have h3 : W3.heap[w.heap.size + 2]? = some (.cells #[Value.int IntKind.i64 0] 24 (0, 0)) := by rw [e3, ← s2]; exact World.alloc_heap_new W2 _
  refine ⟨((b1.trans (b2.mono (by omega))).trans (b3.mono (by omega))).trans ((b4.mono (by omega)).trans (b5.mono (by omega))), t1.below b5, ?_, ⟨.slice none 0 0, ?_⟩, ⟨.bool false, ?_⟩, ⟨.int .i64 0, ?_⟩⟩
  · rw [← s4]; exact World.alloc_heap_new W4 _
  · exact (((b5.block _ (by omega)).trans (b4.block _ (by omega))).trans (b3.block _ (by omega))).trans ((b2.block _ (by omega)).trans h1)
  · exact ((b5.block _ (by omega)).trans (b4.block _ (by omega))).trans ((b3.block _ (by omega)).trans h2)
  · exact ((b5.block _ (by omega)).trans (b4.block _ (by omega))).trans h3
/-- The three boxes of the iterator. -/
theorem three_boxes (W1 : World) (h : Nat) (hs : W1.heap.size = h + 5) (s : ByteArray) {W2 : World} (e : W2 = ((W1.alloc (.cells #[.string s] 9)).alloc (.cells #[.string ⟨#[47]⟩] 9)).alloc (.cells #[.int .i64 0] 3)) :
    Boxed W2 (h + 5) 9 (.string s) ∧ Boxed W2 (h + 6) 9 (.string ⟨#[47]⟩) ∧ Boxed W2 (h + 7) 3 (.int .i64 0) ∧ Below W1.heap.size W1 W2 ∧ W2.heap.size = h + 8 := by
  obtain ⟨V1, e1⟩ : ∃ V1, V1 = W1.alloc (.cells #[.string s] 9) := ⟨_, rfl⟩
  obtain ⟨V2, e2⟩ : ∃ V2, V2 = V1.alloc (.cells #[.string ⟨#[47]⟩] 9) := ⟨_, rfl⟩
  rw [← e1, ← e2] at e
  have s1 : V1.heap.size = h + 6 := by rw [e1, World.size_alloc, hs]
  have s2 : V2.heap.size = h + 7 := by rw [e2, World.size_alloc, s1]
  have s3 : W2.heap.size = h + 8 := by rw [e, World.size_alloc, s2]
  have b1 : Below W1.heap.size W1 V1 := by rw [e1]; exact (Below.refl _ _).alloc (Nat.le_refl _) _
  have b2 : Below V1.heap.size V1 V2 := by rw [e2]; exact (Below.refl _ _).alloc (Nat.le_refl _) _
  have b3 : Below V2.heap.size V2 W2 := by rw [e]; exact (Below.refl _ _).alloc (Nat.le_refl _) _
  have h1 : V1.heap[h + 5]? = some (.cells #[.string s] 9 (0, 0)) := by rw [e1, ← hs]; exact World.alloc_heap_new W1 _
  have h2 : V2.heap[h + 6]? = some (.cells #[.string ⟨#[47]⟩] 9 (0, 0)) := by rw [e2, ← s1]; exact World.alloc_heap_new V1 _
  refine ⟨((b3.block _ (by omega)).trans (b2.block _ (by omega))).trans h1, (b3.block _ (by omega)).trans h2, ?_, (b1.trans (b2.mono (by omega))).trans (b3.mono (by omega)), s3⟩
  show W2.heap[h + 7]? = _
  rw [e, ← s2]
  exact World.alloc_heap_new V2 _
theorem load_box {w : World} {b t : Nat} {v : Value} (ha : (isAgg t).run Tryd.prog w = .ok false w) (h : Boxed w b t v) : (loadVar t ⟨b, 0, none⟩).run Tryd.prog w = .ok v w := by
  have hc := h.cell
  unfold loadVar
  simp only [go_sem]
  simp [run_load]
  rw [ha]
  show (match w.cell? ⟨b, 0, none⟩ with | some v => _ | none => _) = _
  rw [hc]
theorem res_cells3 {P : Program} {f : Func} (tm : Array Value) (w : World) (i j k T U V : Nat) (x y z : Value) (p q r : Addr) (hf : f.results = #[.cell i T, .cell j U, .cell k V]) (h1 : tm.getD i undef = .pointer (some p)) (h2 : tm.getD j undef = .pointer (some q)) (h3 : tm.getD k undef = .pointer (some r))
    (l1 : (loadVar T p).run P w = .ok x w) (l2 : (loadVar U q).run P w = .ok y w) (l3 : (loadVar V r).run P w = .ok z w) :
    (results f tm).run P w = .ok (.tuple #[x, y, z]) w := by
  unfold results
  rw [hf]
  rw [Array.getD_eq_getD_getElem?] at h1 h2 h3
  simp [h1, h2, h3, asAddr, l1, l2, l3]
theorem strs_own2 {w : World} {base n : Nat} {v : Value} {l : List ByteArray} (h : w.ownsRow base 9 1 v n (strVs l)) : ∃ A c, v = .slice A n c ∧ n ≤ c ∧ Strs w A n l ∧ ∀ x, A = some x → base ≤ x.block := by
  rcases h.2 with ⟨rfl, h0⟩ | ⟨g, cap, cur, rfl, hg, _, hc, _⟩
  · exact ⟨none, 0, by rw [h0], by omega, strs_row (c := 0) (by rw [h0] at h ⊢; exact h), fun x hx => by cases hx⟩
  · exact ⟨_, cap, rfl, hc, strs_row h, fun x hx => by injection hx with hx; rw [← hx]; exact hg⟩
theorem Strs.far {w w' : World} {A : Option Addr} {n base : Nat} {l : List ByteArray} (h : Strs w A n l) (hA : ∀ x, A = some x → base ≤ x.block) (hs : w.heap.size ≤ w'.heap.size) (hk : ∀ k, base ≤ k → k < w.heap.size → w'.heap[k]? = w.heap[k]?) : Strs w' A n l :=
  ⟨h.1, fun hn => by
    obtain ⟨b, off, e, hl, hc⟩ := h.2 hn
    exact ⟨b, off, e, Nat.lt_of_lt_of_le hl hs, fun i s hi => (World.cell?_of_block (a := ⟨b, off + i, none⟩) (hk b (hA _ e) hl)).trans (hc i s hi)⟩⟩
theorem trail_clone (W : World) (q : Nat) (P : List ByteArray) (t : TrailAt W q P) (hP : P.length ≤ 12) :
    Calls Tryd.prog 39 #[.slice (some ⟨q, 0, none⟩) P.length 12] W fun e w' => ∃ A c, e = .returned (.slice A P.length c) ∧ P.length ≤ c ∧ Strs w' A P.length P ∧ (∀ x, A = some x → W.heap.size ≤ x.block) ∧ Below W.heap.size W w' := by
  rcases Nat.eq_zero_or_pos P.length with h0 | h0
  · rw [h0]
    obtain rfl : P = [] := List.eq_nil_of_length_eq_zero h0
    refine (Tryd.slices_Clone_string_zero ⟨q, 0, none⟩ 12 W).mono ?_
    rintro e w' ⟨v', rfl, ho, _, hb⟩
    obtain ⟨A, c, rfl, hc, hs, hA⟩ := strs_own2 (l := []) ho
    exact ⟨A, c, rfl, hc, hs, hA, hb⟩
  · obtain ⟨cs, g1, g2, g3, g4, g5⟩ := t
    refine (Tryd.slices_Clone_string q 0 P.length 12 P W (Nat.le_refl _) (by omega) (fun j hj => ?_)).mono ?_
    · rw [g1.cell, Nat.zero_add, g4 j _ (by omega) (List.getElem?_eq_getElem hj), List.getD_eq_getElem?_getD, List.getElem?_eq_getElem hj]
      rfl
    · rintro e w' ⟨v', rfl, ho, _, hb⟩
      rw [List.take_length] at ho
      obtain ⟨A, c, rfl, hc, hs, hA⟩ := strs_own2 ho
      exact ⟨A, c, rfl, hc, hs, hA, hb⟩
set_option maxRecDepth 100000 in
set_option maxHeartbeats 3200000 in
theorem follow_any (w : World) (s : ByteArray) (hs : s.size ≤ 4194304) (E : Env w) :
    Calls Tryd.prog 22 #[.string s] w fun e w' => WalkE (nums s) e w' ∧ Below w.heap.size w w' := by
  obtain ⟨D, hD⟩ : ∃ D, txts D = pieces (nums s) := ⟨(pieces (nums s)).map strB, by
    unfold txts
    rw [List.map_map]
    conv => rhs; rw [← List.map_id (pieces (nums s))]
    exact List.map_congr_left (fun p hp => nums_strB (pieces_bytes (nums_lt s) p hp))⟩
  have HD := Lib.hid hD
  have HS : Hid (s.size ≤ 4194304) := hs
  have HE := Lib.hid E
  clear hD hs E
  refine (callsIn_wide (n := 6)).1 ?_
  refine callsIn_of_wp_marks Tryd.func22 rfl trivial ?_ rfl
  refine wpIn_wide.2 ?_
  simp only [Tryd.ntmps22, List.size_toArray, List.length_cons, List.length_nil, Nat.reduceAdd, Nat.reduceSub, Array.replicate_succ, Array.replicate_zero, List.push_toArray, List.append_toArray, List.nil_append, List.cons_append]
  go_upto_region 3 with fail
  have F0 := Lib.hid (fol_new w)
  have S0 : Hid ((((((w.alloc (Obj.cells #[Value.slice none 0 0] 23)).alloc (Obj.cells #[Value.bool false] 4)).alloc (Obj.cells #[Value.int IntKind.i64 0] 24)).alloc
    (.cells #[.string ⟨#[]⟩, .string ⟨#[]⟩, .string ⟨#[]⟩, .string ⟨#[]⟩, .string ⟨#[]⟩, .string ⟨#[]⟩, .string ⟨#[]⟩, .string ⟨#[]⟩, .string ⟨#[]⟩, .string ⟨#[]⟩, .string ⟨#[]⟩, .string ⟨#[]⟩, .int .i64 0] 53)).alloc (Obj.cells #[Value.bool false] 4)).heap.size = w.heap.size + 5) := by
    show _ = _
    simp only [World.size_alloc]
  obtain ⟨W1, hW1⟩ : ∃ W1, W1 = (((((w.alloc (Obj.cells #[Value.slice none 0 0] 23)).alloc (Obj.cells #[Value.bool false] 4)).alloc (Obj.cells #[Value.int IntKind.i64 0] 24)).alloc
    (.cells #[.string ⟨#[]⟩, .string ⟨#[]⟩, .string ⟨#[]⟩, .string ⟨#[]⟩, .string ⟨#[]⟩, .string ⟨#[]⟩, .string ⟨#[]⟩, .string ⟨#[]⟩, .string ⟨#[]⟩, .string ⟨#[]⟩, .string ⟨#[]⟩, .string ⟨#[]⟩, .int .i64 0] 53)).alloc (Obj.cells #[Value.bool false] 4)) := ⟨_, rfl⟩
  rw [← hW1] at F0 S0 ⊢
  clear hW1
  obtain ⟨h, hh⟩ : ∃ h, h = w.heap.size := ⟨_, rfl⟩
  have HH := Lib.hid hh
  rw [← hh] at F0 S0 ⊢
  clear hh
  simp only [Nat.add_assoc, Nat.reduceAdd]
  have SQ := Lib.hid (SplitSeq_in s W1)
  rw [S0.out, Nat.add_assoc, Nat.add_assoc] at SQ
  go_wp2_with fail
  refine SQ.out.mono ?_
  rintro e W2 ⟨rfl, hw2⟩
  obtain ⟨x1, x2, x3, b2, s2⟩ := three_boxes W1 h S0.out s hw2
  have F2 := Lib.hid (F0.out.below b2)
  have S2 := Lib.hid s2
  clear SQ hw2 b2 s2
  go_wp2_with fail
  refine range_split 7 12 (h + 5) (h + 6) (h + 7) rfl (by omega) (by omega) s HS.out D HD.out x1 x2 x3 (Goes w h (nums s) D) (Ends w h (nums s)) (fun k W W' g b => g.bar (by rw [S2.out] at b; exact b)) (fun W W' g b => g.bar (by rw [S2.out] at b; exact b))
    ⟨[], false, F2.out, Nat.le_of_eq S2.out.symm, Nat.zero_le _, by rw [List.drop_zero, HD.out]; rfl⟩ ?assign ?body ?done ?stop
  case assign =>
    intro l x W K hK
    simp only [List.setIfInBounds_toArray, List.set_cons_succ, List.set_cons_zero] at hK ⊢
    gi_wp2
    exact hK
  case body =>
    rintro l k x W hx ⟨P, d, f, hb, hP, hw⟩
    simp only [List.setIfInBounds_toArray, List.set_cons_succ, List.set_cons_zero]
    have hxs : x.size ≤ 4194304 := by
      have h1 : nums x ∈ pieces (nums s) := by rw [← HD.out]; exact List.mem_map.2 ⟨x, List.mem_of_getElem? hx, rfl⟩
      have h2 := pieces_len (nums s) _ h1
      rw [nums_length, nums_length] at h2
      exact Nat.le_trans h2 HS.out
    have hPl : P.length ≤ 4194310 := by
      have h1 := (List.getElem?_eq_some_iff.1 hx).1
      have h2 := pieces_count (nums s)
      rw [← HD.out, txts_length, nums_length] at h2
      have := HS.out
      omega
    have EW : Env W := HE.out.below (by rw [← HH.out]; exact f.under)
    have SY := Lib.hid (say_any W x hxs EW)
    have FF := Lib.hid f
    have HB := Lib.hid hb
    have HP := Lib.hid hP
    have WK : Hid (Uri.walk (pieces (nums s)) [] false = Uri.walk (nums x :: txts (D.drop (k + 1))) (txts P) d) := by
      show _ = _
      rw [hw, drop_one hx]
      rfl
    have PL := Lib.hid hPl
    clear f hb hP hw hxs hPl hx EW
    gi_wp2
    refine ⟨trivial, ?_⟩
    refine (CallsIn.inRound l (callsIn_wide.2 SY.out)).mono ?_
    rintro e V1 ⟨⟨t, err, rfl, hc⟩, hb1⟩
    have F1 := Lib.hid (FF.out.below hb1)
    have O1 : Hid (Only (five h) W V1) := (Only.refl _ _).under hb1
    have BS : Hid (h + 8 ≤ V1.heap.size) := Nat.le_trans HB.out hb1.size
    clear hb1 SY FF
    have STOP : Hid (Uri.walk (nums x :: txts (D.drop (k + 1))) (txts P) d = ([], false, err) → ∀ V, Only (five h) W V → FolC w h V →
        RoundPost W2.heap.size (h + 5) (h + 6) (h + 7) (Goes w h (nums s) D) (Ends w h (nums s)) k W .ret { tmps := #[], defers := [] } (((V.setCell ⟨h, 0, none⟩ (.slice none 0 0)).setCell ⟨h + 1, 0, none⟩ (.bool false)).setCell ⟨h + 2, 0, none⟩ (.int .i64 err))) := fun hw V ho f => by
      have o2 : Only (five h) W (((V.setCell ⟨h, 0, none⟩ (.slice none 0 0)).setCell ⟨h + 1, 0, none⟩ (.bool false)).setCell ⟨h + 2, 0, none⟩ (.int .i64 err)) := ((ho.setCell (.inl (by simp [five])) _).setCell (.inl (by simp [five])) _).setCell (.inl (by simp [five])) _
      exact ⟨by rw [S2.out]; exact (five_keeps o2 HB.out).1, err, f.res _ _ _, WK.out.trans hw⟩
    have STOP20 : Hid (Uri.walk (nums x :: txts (D.drop (k + 1))) (txts P) d = ([], false, 20) → ∀ V, Only (five h) W V → FolC w h V →
        RoundPost W2.heap.size (h + 5) (h + 6) (h + 7) (Goes w h (nums s) D) (Ends w h (nums s)) k W .ret { tmps := #[], defers := [] } (((V.setCell ⟨h, 0, none⟩ (.slice none 0 0)).setCell ⟨h + 1, 0, none⟩ (.bool false)).setCell ⟨h + 2, 0, none⟩ (.int .i64 20))) := fun hw V ho f => by
      have o2 : Only (five h) W (((V.setCell ⟨h, 0, none⟩ (.slice none 0 0)).setCell ⟨h + 1, 0, none⟩ (.bool false)).setCell ⟨h + 2, 0, none⟩ (.int .i64 20)) := ((ho.setCell (.inl (by simp [five])) _).setCell (.inl (by simp [five])) _).setCell (.inl (by simp [five])) _
      exact ⟨by rw [S2.out]; exact (five_keeps o2 HB.out).1, 20, f.res _ _ _, WK.out.trans hw⟩
    rcases hc with ⟨hn, rfl⟩ | ⟨u, hu, h64, rfl⟩ | ⟨hu, h64, rfl⟩
    · have S5 := Lib.hid (STOP.out (walk_none hn _ _ _) V1 O1.out F1.out.c)
      obtain ⟨v0, y0⟩ := F1.out.r0
      obtain ⟨v1, y1⟩ := F1.out.r1
      obtain ⟨v2, y2⟩ := F1.out.r2
      have c0 := y0.cell
      have c1 := y1.cell
      have c2 := y2.cell
      have z0 := y0.frozen
      have z1 := y1.frozen
      have z2 := y2.frozen
      clear hn STOP y0 y1 y2
      gi_wp2
      exact S5.out
    · have S5 := Lib.hid (STOP.out (by rw [walk_some hu, if_pos h64]) V1 O1.out F1.out.c)
      obtain ⟨v0, y0⟩ := F1.out.r0
      obtain ⟨v1, y1⟩ := F1.out.r1
      obtain ⟨v2, y2⟩ := F1.out.r2
      have c0 := y0.cell
      have c1 := y1.cell
      have c2 := y2.cell
      have z0 := y0.frozen
      have z1 := y1.frozen
      have z2 := y2.frozen
      clear hu h64 STOP y0 y1 y2
      gi_wp2
      exact S5.out
    · have DT : Hid (∀ b : Bool, b = dots (nums t) → ∃ V2, V2 = V1.setCell ⟨h + 4, 0, none⟩ (.bool b) ∧ Fol w h P (dots (nums t)) V2 ∧ Only (five h) W V2) := fun b hb => ⟨_, rfl, by rw [← hb]; exact F1.out.dir _, O1.out.setCell (.inl (by simp [five])) _⟩
      have cd := F1.out.box.cell
      have zd := F1.out.box.frozen
      have HU := Lib.hid hu
      have H64 := Lib.hid h64
      have f0 := isEmpty_nums t
      by_cases h0 : nums t = []
      · rw [decide_eq_true h0] at f0
        have DV : Hid (true = dots (nums t)) := by show _ = _; rw [h0]; rfl
        clear hu h64 h0
        gi_wp2
        refine ⟨trivial, ?_⟩
        gi_wp2
        obtain ⟨V2, hV2, f2, o2⟩ := DT.out true (by exact DV.out)
        rw [← hV2]
        have ST := Lib.hid (step_any V2 (h + 3) P t PL.out f2.trail)
        have F2' := Lib.hid f2
        have O2 := Lib.hid o2
        clear hV2 f2 o2 cd zd DT F1
        gi_wp2
        refine ⟨trivial, ?_⟩
        refine (CallsIn.inRound l (callsIn_wide.2 ST.out)).mono ?_
        rintro e V3 hst
        have O3 : Hid (Only (five h) W V3) := O2.out.trans hst.1 (fun x hx => .inl (by simp at hx; simp [five, hx]))
        have C3 := Lib.hid (F2'.out.c.only hst.1)
        rcases stepW_of hst HU.out H64.out (txts (D.drop (k + 1))) d with ⟨P', rfl, ht, hl, hw⟩ | ⟨rfl, hw⟩
        · have FIN : Hid (KeepsFrom W2.heap.size W V3 ∧ BoxesSame (h + 5) (h + 6) (h + 7) W V3 ∧ Goes w h (nums s) D (k + 1) V3) := ⟨by rw [S2.out]; exact (five_keeps O3.out HB.out).1, (five_keeps O3.out HB.out).2, P', dots (nums t), F2'.out.only hst.1 ht, Nat.le_trans HB.out O3.out.size, by have := HP.out; omega, WK.out.trans hw⟩
          clear hst ht hl hw ST STOP
          gi_wp2
          exact FIN.out
        · have S5 := Lib.hid (STOP20.out hw V3 O3.out C3.out)
          obtain ⟨v0, y0⟩ := C3.out.r0
          obtain ⟨v1, y1⟩ := C3.out.r1
          obtain ⟨v2, y2⟩ := C3.out.r2
          have c0 := y0.cell
          have c1 := y1.cell
          have c2 := y2.cell
          have z0 := y0.frozen
          have z1 := y1.frozen
          have z2 := y2.frozen
          clear hst hw ST STOP y0 y1 y2
          gi_wp2
          exact S5.out
      · rw [decide_eq_false h0] at f0
        have ID := Lib.hid (isdots_any V1 t)
        have DV : Hid (decide (nums t = [46] ∨ nums t = [46, 46]) = dots (nums t)) := by
          show _ = _
          unfold dots
          exact decide_eq_decide.2 ⟨fun h => .inr h, fun h => h.elim (fun h => absurd h h0) id⟩
        obtain ⟨dv, hdv⟩ : ∃ dv, dv = decide (nums t = [46] ∨ nums t = [46, 46]) := ⟨_, rfl⟩
        rw [← hdv] at ID DV
        clear hu h64 h0 hdv
        gi_wp2
        refine ⟨trivial, ?_⟩
        refine (CallsIn.inRound l (callsIn_wide.2 ID.out)).mono ?_
        rintro e V1' ⟨rfl, rfl⟩
        gi_wp2
        obtain ⟨V2, hV2, f2, o2⟩ := DT.out dv (by exact DV.out)
        rw [← hV2]
        have ST := Lib.hid (step_any V2 (h + 3) P t PL.out f2.trail)
        have F2' := Lib.hid f2
        have O2 := Lib.hid o2
        clear hV2 f2 o2 cd zd DT F1
        gi_wp2
        refine ⟨trivial, ?_⟩
        refine (CallsIn.inRound l (callsIn_wide.2 ST.out)).mono ?_
        rintro e V3 hst
        have O3 : Hid (Only (five h) W V3) := O2.out.trans hst.1 (fun x hx => .inl (by simp at hx; simp [five, hx]))
        have C3 := Lib.hid (F2'.out.c.only hst.1)
        rcases stepW_of hst HU.out H64.out (txts (D.drop (k + 1))) d with ⟨P', rfl, ht, hl, hw⟩ | ⟨rfl, hw⟩
        · have FIN : Hid (KeepsFrom W2.heap.size W V3 ∧ BoxesSame (h + 5) (h + 6) (h + 7) W V3 ∧ Goes w h (nums s) D (k + 1) V3) := ⟨by rw [S2.out]; exact (five_keeps O3.out HB.out).1, (five_keeps O3.out HB.out).2, P', dots (nums t), F2'.out.only hst.1 ht, Nat.le_trans HB.out O3.out.size, by have := HP.out; omega, WK.out.trans hw⟩
          clear hst ht hl hw ST STOP
          gi_wp2
          exact FIN.out
        · have S5 := Lib.hid (STOP20.out hw V3 O3.out C3.out)
          obtain ⟨v0, y0⟩ := C3.out.r0
          obtain ⟨v1, y1⟩ := C3.out.r1
          obtain ⟨v2, y2⟩ := C3.out.r2
          have c0 := y0.cell
          have c1 := y1.cell
          have c2 := y2.cell
          have z0 := y0.frozen
          have z1 := y1.frozen
          have z2 := y2.frozen
          clear hst hw ST STOP y0 y1 y2
          gi_wp2
          exact S5.out
  case done =>
    rintro D0 W hD0 ⟨P, d, f, hb, hP, hw⟩ hK
    rw [List.drop_length] at hw
    have HK := Lib.hid hK
    have HD0 := Lib.hid hD0
    have F := Lib.hid f
    have HW := Lib.hid hw
    have HB := Lib.hid hb
    have PL : Hid (P.length ≤ 4194310) := by
      have h2 := pieces_count (nums s)
      rw [← HD.out, txts_length, nums_length] at h2
      have := HS.out
      show _ ≤ _
      omega
    have c12 := f.trail.depth
    have z12 := f.trail.frozen 12
    have LP : Hid (P.length ≤ 4194310) := PL
    clear hK hD0 f hb hP hw
    by_cases h12 : 12 < P.length
    · have h12z : (12 : Int) < (P.length : Int) := by omega
      obtain ⟨v0, y0⟩ := F.out.r0
      obtain ⟨v1, y1⟩ := F.out.r1
      obtain ⟨v2, y2⟩ := F.out.r2
      have c0 := y0.cell
      have c1 := y1.cell
      have c2 := y2.cell
      have z0 := y0.frozen
      have z1 := y1.frozen
      have z2 := y2.frozen
      have R := Lib.hid (F.out.c.res (.slice none 0 0) (.bool false) (.int .i64 5))
      have WV : Hid (Uri.walk (pieces (nums s)) [] false = ([], false, 5)) := by
        show _ = _
        rw [HW.out]
        show Uri.walk [] _ _ = _
        unfold Uri.walk
        rw [if_pos (by rw [txts_length]; exact h12)]
      clear y0 y1 y2
      go_wp2_with fail
      have HK2 : (((W.setCell ⟨h, 0, none⟩ (.slice none 0 0)).setCell ⟨h + 1, 0, none⟩ (.bool false)).setCell ⟨h + 2, 0, none⟩ (.int .i64 5)).heap[D0]? = some (.deferred (some [])) := by
        have := HD0.out
        rw [S2.out] at this
        rw [Below.heap_setCell _ _ _ _ (by show D0 ≠ h + 2; omega), Below.heap_setCell _ _ _ _ (by show D0 ≠ h + 1; omega), Below.heap_setCell _ _ _ _ (by show D0 ≠ h; omega)]
        exact HK.out
      refine ⟨by simp, .inl ⟨_, _, rfl, run_takeDeferred HK2, ?_⟩⟩
      generalize (((W.setCell ⟨h, 0, none⟩ (.slice none 0 0)).setCell ⟨h + 1, 0, none⟩ (.bool false)).setCell ⟨h + 2, 0, none⟩ (.int .i64 5)) = V at *
      have O1 : Below (h + 3) V (V.putObj D0 (.deferred none)) := ⟨rfl, rfl, rfl, by simp [World.putObj], fun i hi => World.putObj_heap_other (by have := HD0.out; rw [S2.out] at this; omega)⟩
      have R1 := R.out.only (Nat.le_refl _) O1
      exact ⟨_, res_cells3 _ _ 2 3 4 23 4 24 _ _ _ _ _ _ Tryd.results22 rfl rfl rfl (load_box (Tryd.isAgg23 _) R1.r0) (load_box (Tryd.isAgg4 _) R1.r1) (load_box (Tryd.isAgg24 _) R1.r2),
        ⟨none, [], 0, false, 5, rfl, Nat.le_refl _, Strs.nil _ _, WV.out⟩, by rw [← HH.out]; exact R1.under⟩
    · have h12z : ¬ (12 : Int) < (P.length : Int) := by omega
      have h12n : P.length ≤ 12 := by omega
      have h12i : (P.length : Int) ≤ 12 := by omega
      have cd := F.out.box.cell
      have CL := Lib.hid (trail_clone W.drew (h + 3) P F.out.trail.drew h12n)
      go_upto_region 13 with fail
      refine wp_region_noPanic ?_
      refine wp_region_held_drew (S := fun w' => w'.cell? ⟨h + 3, 12, none⟩ = some (.int .i64 (P.length : Int)) ∧ w'.cell? ⟨h + 4, 0, none⟩ = some (.bool d)) (by kernel_rfl) ⟨c12, cd⟩ (fun hHeld => ?_)
      refine take_ (i := 0) (v := ?_) 33 rfl rfl (by kernel_rfl) (by kernel_rfl) (by kernel_rfl) (fun _ _ _ h => h) (Or.inl ⟨by rfl, ?_⟩) (by assumption) ?_
      rotate_left
      · (intro wS hSw; (try dsimp only at hSw); go_simp; try with_reducible rfl)
      simp only [Act.put, List.setIfInBounds_toArray, List.set_cons_zero, List.set_cons_succ]
      refine take_ (i := 1) (v := ?_) 34 rfl rfl (by kernel_rfl) (by kernel_rfl) (by kernel_rfl) (fun _ _ _ h => h) (Or.inl ⟨by rfl, ?_⟩) (by assumption) ?_
      rotate_left
      · (intro wS hSw; (try dsimp only at hSw); go_simp; try with_reducible rfl)
      simp only [Act.put, List.setIfInBounds_toArray, List.set_cons_zero, List.set_cons_succ]
      refine take_ (i := 2) (v := ?_) 35 rfl rfl (by kernel_rfl) (by kernel_rfl) (by kernel_rfl) (fun _ _ _ h => h) (Or.inl ⟨by rfl, ?_⟩) (by assumption) ?_
      rotate_left
      · (intro wS hSw; (try dsimp only at hSw); go_simp; try with_reducible rfl)
      simp only [Act.put, List.setIfInBounds_toArray, List.set_cons_zero, List.set_cons_succ]
      refine take_ (i := 3) (v := ?_) 36 rfl rfl (by kernel_rfl) (by kernel_rfl) (by kernel_rfl) (fun _ _ _ h => h) (Or.inl ⟨by rfl, ?_⟩) (by assumption) ?_
      rotate_left
      · (intro wS hSw; (try dsimp only at hSw); go_simp; try with_reducible rfl)
      simp only [Act.put, List.setIfInBounds_toArray, List.set_cons_zero, List.set_cons_succ]
      refine take_ (i := 5) (v := ?_) 38 rfl rfl (by kernel_rfl) (by kernel_rfl) (by kernel_rfl) (fun _ _ _ h => h) (Or.inl ⟨by rfl, ?_⟩) (by assumption) ?_
      rotate_left
      · (intro wS hSw; (try dsimp only at hSw); go_simp; try with_reducible rfl)
      simp only [Act.put, List.setIfInBounds_toArray, List.set_cons_zero, List.set_cons_succ]
      refine one_ (i := 4) _ (by kernel_rfl) rfl (fun K hK => ?_)
      go_simp
      refine CL.out.mono ?_
      rintro e W3 ⟨A3, c3, rfl, hc3, hs3, hA3, hb3⟩
      have B3 : Hid (Below W.heap.size W W3) := (Below.refl _ _).drew.trans hb3
      have F3 := Lib.hid (F.out.below B3.out)
      have T3 := Lib.hid hs3
      have TA : Hid (∀ x, A3 = some x → W.heap.size ≤ x.block) := hA3
      have C3 := Lib.hid hc3
      obtain ⟨v0, y0⟩ := F3.out.r0
      obtain ⟨v1, y1⟩ := F3.out.r1
      obtain ⟨v2, y2⟩ := F3.out.r2
      have c0 := y0.cell
      have c1 := y1.cell
      have c2 := y2.cell
      have z0 := y0.frozen
      have z1 := y1.frozen
      have z2 := y2.frozen
      have R := Lib.hid (F3.out.c.res (.slice A3 P.length c3) (.bool d) (.int .i64 0))
      have HK3 : Hid (W3.heap[D0]? = some (.deferred (some []))) := (B3.out.block _ (Array.getElem?_eq_some_iff.1 HK.out).1).trans HK.out
      have WV : Hid (Uri.walk (pieces (nums s)) [] false = (txts P, d, 0)) := by
        show _ = _
        rw [HW.out]
        show Uri.walk [] _ _ = _
        unfold Uri.walk
        rw [if_neg (by rw [txts_length]; omega)]
      have S3 : Hid (W3.cell? ⟨h + 3, 12, none⟩ = some (.int .i64 (P.length : Int)) ∧ W3.cell? ⟨h + 4, 0, none⟩ = some (.bool d)) := ⟨F3.out.trail.depth, F3.out.box.cell⟩
      have S4 : Hid (∀ v, (W3.setCell ⟨h, 0, none⟩ v).cell? ⟨h + 3, 12, none⟩ = some (.int .i64 (P.length : Int)) ∧ (W3.setCell ⟨h, 0, none⟩ v).cell? ⟨h + 4, 0, none⟩ = some (.bool d)) := fun v =>
        ⟨(World.cell?_of_block (Below.heap_setCell _ _ _ _ (by show h + 3 ≠ h; omega))).trans S3.out.1, (World.cell?_of_block (Below.heap_setCell _ _ _ _ (by show h + 4 ≠ h; omega))).trans S3.out.2⟩
      have S5 : Hid (∀ v u, ((W3.setCell ⟨h, 0, none⟩ v).setCell ⟨h + 1, 0, none⟩ u).cell? ⟨h + 3, 12, none⟩ = some (.int .i64 (P.length : Int)) ∧ ((W3.setCell ⟨h, 0, none⟩ v).setCell ⟨h + 1, 0, none⟩ u).cell? ⟨h + 4, 0, none⟩ = some (.bool d)) := fun v u =>
        ⟨(World.cell?_of_block (Below.heap_setCell _ _ _ _ (by show h + 3 ≠ h + 1; omega))).trans (S4.out v).1, (World.cell?_of_block (Below.heap_setCell _ _ _ _ (by show h + 4 ≠ h + 1; omega))).trans (S4.out v).2⟩
      have S6 : Hid (∀ v u x, (((W3.setCell ⟨h, 0, none⟩ v).setCell ⟨h + 1, 0, none⟩ u).setCell ⟨h + 2, 0, none⟩ x).cell? ⟨h + 3, 12, none⟩ = some (.int .i64 (P.length : Int)) ∧ (((W3.setCell ⟨h, 0, none⟩ v).setCell ⟨h + 1, 0, none⟩ u).setCell ⟨h + 2, 0, none⟩ x).cell? ⟨h + 4, 0, none⟩ = some (.bool d)) := fun v u x =>
        ⟨(World.cell?_of_block (Below.heap_setCell _ _ _ _ (by show h + 3 ≠ h + 2; omega))).trans (S5.out v u).1, (World.cell?_of_block (Below.heap_setCell _ _ _ _ (by show h + 4 ≠ h + 2; omega))).trans (S5.out v u).2⟩
      clear hc3 hs3 hb3 hA3 CL c12 cd z12 y0 y1 y2 hHeld
      go_wp2_with fail
      refine hK.out _ _ S3.out (fun hHeld => ?_)
      clear hK K
      refine one_ (i := 6) _ (by kernel_rfl) rfl (fun K hK => ?_)
      go_simp
      refine hK.out _ _ (S4.out _) (fun hHeld => ?_)
      clear hK K
      refine one_ (i := 7) _ (by kernel_rfl) rfl (fun K hK => ?_)
      go_simp
      refine hK.out _ _ (S5.out _ _) (fun hHeld => ?_)
      clear hK K
      refine one_ (i := 8) _ (by kernel_rfl) rfl (fun K hK => ?_)
      go_simp
      refine hK.out _ _ (S6.out _ _ _) (fun hHeld => ?_)
      clear hK K
      refine wpAnyH_done (by kernel_rfl) ?_ _
      refine NoPanic.normal ?_
      go_wp2_with fail
      have HK2 : (((W3.setCell ⟨h, 0, none⟩ (.slice A3 P.length c3)).setCell ⟨h + 1, 0, none⟩ (.bool d)).setCell ⟨h + 2, 0, none⟩ (.int .i64 0)).heap[D0]? = some (.deferred (some [])) := by
        have := HD0.out
        rw [S2.out] at this
        rw [Below.heap_setCell _ _ _ _ (by show D0 ≠ h + 2; omega), Below.heap_setCell _ _ _ _ (by show D0 ≠ h + 1; omega), Below.heap_setCell _ _ _ _ (by show D0 ≠ h; omega)]
        exact HK3.out
      refine ⟨by simp, .inl ⟨_, _, rfl, run_takeDeferred HK2, ?_⟩⟩
      have T4 : Hid (Strs ((((W3.setCell ⟨h, 0, none⟩ (.slice A3 P.length c3)).setCell ⟨h + 1, 0, none⟩ (.bool d)).setCell ⟨h + 2, 0, none⟩ (.int .i64 0)).putObj D0 (.deferred none)) A3 P.length P) := by
        have d1 := (Array.getElem?_eq_some_iff.1 HK.out).1
        have d2 := HB.out
        refine T3.out.far TA.out (by simp [World.putObj, World.setCell]) (fun k hk hl => ?_)
        rw [World.putObj_heap_other (by omega), Below.heap_setCell _ _ _ _ (by show k ≠ h + 2; omega), Below.heap_setCell _ _ _ _ (by show k ≠ h + 1; omega), Below.heap_setCell _ _ _ _ (by show k ≠ h; omega)]
      generalize (((W3.setCell ⟨h, 0, none⟩ (.slice A3 P.length c3)).setCell ⟨h + 1, 0, none⟩ (.bool d)).setCell ⟨h + 2, 0, none⟩ (.int .i64 0)) = V at *
      have O1 : Below (h + 3) V (V.putObj D0 (.deferred none)) := ⟨rfl, rfl, rfl, by simp [World.putObj], fun i hi => World.putObj_heap_other (by have := HD0.out; rw [S2.out] at this; omega)⟩
      have R1 := R.out.only (Nat.le_refl _) O1
      exact ⟨_, res_cells3 _ _ 2 3 4 23 4 24 _ _ _ _ _ _ Tryd.results22 rfl rfl rfl (load_box (Tryd.isAgg23 _) R1.r0) (load_box (Tryd.isAgg4 _) R1.r1) (load_box (Tryd.isAgg24 _) R1.r2),
        ⟨A3, P, c3, d, 0, rfl, C3.out, T4.out, WV.out⟩, by rw [← HH.out]; exact R1.under⟩
  case stop =>
    rintro D0 W hD0 ⟨err, hr, hw⟩ hK
    have HK := Lib.hid hK
    have HR := Lib.hid hr
    have HW := Lib.hid hw
    have HD0 := Lib.hid hD0
    clear hK hr hw hD0
    go_wp2_with fail
    refine ⟨by simp, .inl ⟨_, _, rfl, run_takeDeferred HK.out, ?_⟩⟩
    have O1 : Below (h + 3) W (W.putObj D0 (.deferred none)) := ⟨rfl, rfl, rfl, by simp [World.putObj], fun i hi => World.putObj_heap_other (by have := HD0.out; rw [S2.out] at this; omega)⟩
    have R1 := HR.out.only (Nat.le_refl _) O1
    exact ⟨_, res_cells3 _ _ 2 3 4 23 4 24 _ _ _ _ _ _ Tryd.results22 rfl rfl rfl (load_box (Tryd.isAgg23 _) R1.r0) (load_box (Tryd.isAgg4 _) R1.r1) (load_box (Tryd.isAgg24 _) R1.r2),
      ⟨none, [], 0, false, err, rfl, Nat.le_refl _, Strs.nil _ _, HW.out⟩, by rw [← HH.out]; exact R1.under⟩
end Go.Proofs.YtpnmddealjoiiaaDoor
