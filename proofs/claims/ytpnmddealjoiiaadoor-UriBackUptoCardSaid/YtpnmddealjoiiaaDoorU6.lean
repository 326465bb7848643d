/-
  uri: slices of strings; what the document's pieces, Same and Within answer.
-/
import Derived.Test.YtpnmddealjoiiaaDoorU5
namespace Go.Proofs.YtpnmddealjoiiaaDoor
open Go.RowKit Uri

theorem infoS : (Tryd.prog.info? 9).map (fun i => (i.zero, i.size, i.bytes)) = some (some (.string ⟨#[]⟩), 1, 16) := by kernel_rfl
/-- A slice of strings that reads as the list l. -/
def Strs (w : World) (A : Option Addr) (n : Nat) (l : List ByteArray) : Prop :=
  l.length = n ∧ (0 < n → ∃ b off, A = some ⟨b, off, none⟩ ∧ b < w.heap.size ∧ ∀ i s, l[i]? = some s → w.cell? ⟨b, off + i, none⟩ = some (.string s))
theorem Strs.below {w w' : World} {A : Option Addr} {n : Nat} {l : List ByteArray} (h : Strs w A n l) (k : Below w.heap.size w w') : Strs w' A n l :=
  ⟨h.1, fun hn => by
    obtain ⟨b, off, e, hl, hc⟩ := h.2 hn
    exact ⟨b, off, e, Nat.lt_of_lt_of_le hl k.size, fun i s hi => (k.cell (p := ⟨b, off + i, none⟩) hl).trans (hc i s hi)⟩⟩
theorem Strs.drewN {w : World} {A : Option Addr} {n : Nat} {l : List ByteArray} (h : Strs w A n l) (k : Nat) : Strs (w.drewN k) A n l := h
theorem Strs.take {w : World} {A : Option Addr} {n k : Nat} {l : List ByteArray} (h : Strs w A n l) (hk : k ≤ n) : Strs w A k (l.take k) :=
  ⟨by rw [List.length_take, h.1]; omega, fun hp => by
    obtain ⟨b, off, e, hl, hc⟩ := h.2 (by omega)
    refine ⟨b, off, e, hl, fun i s hi => hc i s ?_⟩
    have hi2 := (List.getElem?_eq_some_iff.1 hi).1
    rw [List.length_take] at hi2
    rwa [List.getElem?_take, if_pos (by omega)] at hi⟩
theorem Strs.nil (w : World) (A : Option Addr) : Strs w A 0 [] := ⟨rfl, fun h => by omega⟩
theorem Strs.at_ {w : World} {A : Option Addr} {n k : Nat} {l : List ByteArray} (h : Strs w A n l) (hk : k < n) : ∃ b off s, A = some ⟨b, off, none⟩ ∧ l[k]? = some s ∧ w.cell? ⟨b, off + k, none⟩ = some (.string s) ∧ l.take (k + 1) = l.take k ++ [s] := by
  obtain ⟨b, off, e, hb, hc⟩ := h.2 (by omega)
  have hk' : k < l.length := by rw [h.1]; exact hk
  have e1 : l[k]? = some l[k] := List.getElem?_eq_getElem hk'
  refine ⟨b, off, l[k], e, e1, hc k _ e1, ?_⟩
  rw [List.take_add_one, e1]
  rfl
/-- A list of strings, as texts. -/
def txts (l : List ByteArray) : List (List Nat) := l.map nums
theorem txts_length (l : List ByteArray) : (txts l).length = l.length := by simp [txts]
theorem txts_bytes (l : List ByteArray) : ∀ r ∈ txts l, ∀ x ∈ r, x < 256 := fun r hr => by
  obtain ⟨s, _, rfl⟩ := List.mem_map.1 hr
  exact nums_lt s
theorem txts_inj {a b : List ByteArray} (h : txts a = txts b) : a = b := by
  unfold txts at h
  induction a generalizing b with
  | nil => cases b with
    | nil => rfl
    | cons _ _ => cases h
  | cons x r ih => cases b with
    | nil => cases h
    | cons y q =>
      simp only [List.map_cons, List.cons.injEq] at h
      rw [ext_nums h.1, ih h.2]
theorem txts_app (a b : List ByteArray) : txts (a ++ b) = txts a ++ txts b := by simp [txts]
def strVs (l : List ByteArray) : List Value := l.map Value.string
theorem strVs_append (a b : List ByteArray) : strVs (a ++ b) = strVs a ++ strVs b := by simp [strVs]
theorem strs_one (w : World) (s : ByteArray) (e : TypeId) (m : Nat × Nat) (b : Nat) (hb : b = w.heap.size) : Strs (w.alloc (.cells #[.string s] e m)) (some ⟨b, 0, none⟩) 1 [s] := by
  subst hb
  refine ⟨rfl, fun _ => ⟨_, 0, rfl, by simp, fun i t hi => ?_⟩⟩
  obtain rfl : i = 0 := by have := (List.getElem?_eq_some_iff.1 hi).1; simp at this; omega
  rw [Nat.zero_add, World.cell?_alloc_mark]
  simp at hi
  rw [hi]
  rfl
set_option maxRecDepth 100000 in
theorem run_append_strs (w : World) (base : Nat) (ty : TypeId) (v : Value) (k : Nat) (xs : List Value) (hr : w.ownsRow base 9 1 v k xs) (A : Option Addr) (m c : Nat) (l : List ByteArray) (hl : Strs w A m l) (hk : k + m ≤ 8796093022208) (hb : base ≤ w.heap.size) :
    ∃ v' w', (Builtin.append_ #[23, 23] ty #[v, .slice A m c]).run Tryd.prog w = .ok v' w' ∧ w'.ownsRow base 9 1 v' (k + m) (xs ++ strVs l) ∧ w.grownBy w' v.ownBlock ∧ (v'.ownBlock = v.ownBlock ∨ v'.ownBlock = some w.heap.size) := by
  obtain ⟨i, hi, hz, hsize, hby⟩ := info_parts infoS
  rcases A with _ | ad
  · have hm : m = 0 := by
      rcases Nat.eq_zero_or_pos m with h0 | h0
      · exact h0
      · obtain ⟨b, off, h, _⟩ := hl.2 h0
        cases h
    subst hm
    have hn : l = [] := List.eq_nil_of_length_eq_zero hl.1
    subst hn
    refine ⟨v, w, ?_, by simpa [strVs] using hr, World.grownBy.refl w _, .inl rfl⟩
    rcases hr.2 with ⟨rfl, rfl⟩ | ⟨g, cap, cur, rfl, _, _, hnc, _⟩
    · simp [Builtin.append_, run_underlying Tryd.underlying23, sizeOf, typeInfo, hi, Builtin.lenOf, Builtin.firstCells]
    · simp [Builtin.append_, run_underlying Tryd.underlying23, sizeOf, typeInfo, hi, Builtin.lenOf, Builtin.firstCells, hnc, storeCells]
  · obtain ⟨v', w', h1, h2, h3, _, h4⟩ := run_append_own_at (P := Tryd.prog) w base 23 ty 9 i (.string ⟨#[]⟩) 1 16 Tryd.underlying23 hi hz hsize hby rfl (by omega) v k xs hr ad m c (strVs l) (by simp [strVs, hl.1])
      (fun j y hy => by
        unfold strVs at hy
        rw [List.getElem?_map] at hy
        obtain ⟨s, hs, rfl⟩ := Option.map_eq_some_iff.1 hy
        have hj := (List.getElem?_eq_some_iff.1 hs).1
        rw [hl.1] at hj
        obtain ⟨b, off, e, _, hc⟩ := hl.2 (by omega)
        injection e with e
        subst e
        rw [WideShapes.add_plain]
        exact hc j s hs) (fun y hy => by
        obtain ⟨s, _, rfl⟩ := List.mem_map.1 hy
        rfl) (by simp only [maxLen]; omega) (by omega) hb
    exact ⟨v', w', h1, h2, h3, h4⟩
set_option maxRecDepth 100000 in
theorem wpList_append_strs {ops : Array Oper} {rest : List Oper} {o : Oper} {a : Act} {w : World} {Q : Exit → Act → World → Prop} (hgd : o.guard = none) (s x : Operand) (base : Nat)
    (ho : o.op = .call { callee := .builtin .append, args := #[s, x], argTypes := #[23, 23] }) (v : Value) (k : Nat) (xs : List Value) (hs : a.eval s = v) (hr : w.ownsRow base 9 1 v k xs) (A : Option Addr) (m c : Nat) (l : List ByteArray) (hx : a.eval x = .slice A m c)
    (hl : Strs w A m l) (hk : k + m ≤ 8796093022208) (hb : base ≤ w.heap.size)
    (h : ∀ v' w', w'.ownsRow base 9 1 v' (k + m) (xs ++ strVs l) → w.grownBy w' v.ownBlock → (v'.ownBlock = v.ownBlock ∨ v'.ownBlock = some w.heap.size) → wpList Tryd.prog ops Q rest (a.put o.dst v') w') : wpList Tryd.prog ops Q (o :: rest) a w := by
  obtain ⟨v', w', h1, h2, h3, h4⟩ := run_append_strs w base o.type v k xs hr A m c l hl hk hb
  refine wpList_plain hgd fun _ hK => ?_
  unfold Oper.wp execOp
  simp only [ho, resolve, invoke, builtin, Sem.run_bind, Sem.run_pure, Result.andThen_ok, List.map_toArray, List.map_cons, List.map_nil, hs, hx, h1]
  exact hK _ _ (h v' w' h2 h3 h4)
/-- A row of the call's own was appended to. -/
theorem row_grown {w0 w w' : World} {base : Nat} {e : TypeId} {size n : Nat} {v : Value} {xs : List Value} (h : w.ownsRow base e size v n xs) (hb : Below base w0 w) (hg : w.grownBy w' v.ownBlock) (hB : base ≤ w.heap.size) : Below base w0 w' :=
  ⟨hg.os.trans hb.os, hg.tape.trans hb.tape, hg.output.trans hb.output, Nat.le_trans hb.size hg.size, fun k hk => (hg.block k (Nat.lt_of_lt_of_le hk hB) (fun e => by have := (h.lt k e.symm).1; omega)).trans (hb.block k hk)⟩
/-- A row of strings of the call's own, as a slice of strings. -/
theorem strs_row {w : World} {base n c : Nat} {A : Option Addr} {l : List ByteArray} (h : w.ownsRow base 9 1 (.slice A n c) n (strVs l)) : Strs w A n l := by
  have hl : l.length = n := by have := h.1; simp [strVs] at this; omega
  refine ⟨hl, fun h0 => ?_⟩
  rcases h.2 with ⟨_, h1⟩ | ⟨g, cap, cur, e, hg, hh, _⟩
  · omega
  · injection e with e1 _ _
    subst e1
    refine ⟨g, 0, rfl, (Array.getElem?_eq_some_iff.1 hh).1, fun i s hi => ?_⟩
    have hil := (List.getElem?_eq_some_iff.1 hi).1
    rw [Nat.zero_add, h.cellAt i (by omega)]
    unfold strVs
    rw [List.getElem?_map, hi]
    rfl
theorem row_form {w : World} {base : Nat} {e : TypeId} {size : Nat} {v : Value} {n : Nat} {xs : List Value} (h : w.ownsRow base e size v n xs) : ∃ A c, v = .slice A n c := by
  rcases h.2 with ⟨rfl, rfl⟩ | ⟨g, cap, cur, rfl, _⟩
  · exact ⟨none, 0, rfl⟩
  · exact ⟨_, cap, rfl⟩

/-- What pieces answers of the bytes l. -/
def PiecesE (l : List Nat) (e : Ending) (w' : World) : Prop := ∃ A c D, e = .returned (.slice A D.length c) ∧ Strs w' A D.length D ∧ txts D = pieces l
theorem mid_mem {l : List Nat} {f k x : Nat} (hf : f ≤ k) (hk : k < l.length) (hn : x ∉ (l.drop f).take (k - f)) (hx : l.getD k 0 ≠ x) : x ∉ (l.drop f).take (k + 1 - f) := by
  have e : k + 1 - f = k - f + 1 := by omega
  rw [e, take_next (by rw [List.length_drop]; omega), List.mem_append, not_or]
  refine ⟨hn, ?_⟩
  have : (l.drop f).getD (k - f) 0 = l.getD k 0 := by
    rw [List.getD_eq_getElem?_getD, List.getElem?_drop, List.getD_eq_getElem?_getD]
    congr 3
    omega
  rw [this]
  simpa using fun h => hx h.symm
theorem pieces_cut {l : List Nat} {f k : Nat} (hf : f ≤ k) (hk : k < l.length) (hn : 47 ∉ (l.drop f).take (k - f)) (hx : l.getD k 0 = 47) : pieces (l.drop f) = (l.drop f).take (k - f) :: pieces (l.drop (k + 1)) := by
  have e : l.drop f = (l.drop f).take (k - f) ++ 47 :: l.drop (k + 1) := by
    conv => lhs; rw [← List.take_append_drop (k - f) (l.drop f)]
    congr 1
    rw [List.drop_drop, show f + (k - f) = k by omega, drop_cons hk, hx]
  conv => lhs; rw [e]
  exact pieces_app hn _
set_option maxRecDepth 100000 in
set_option maxHeartbeats 1600000 in
theorem pieces_any (w : World) (s : ByteArray) (hs : s.size ≤ 4194304) :
    Calls Tryd.prog 24 #[.string s] w fun e w' => PiecesE (nums s) e w' ∧ Below w.heap.size w w' := by
  have HA : Hid (∀ k (hk : k < s.size), (s[k]'hk).toNat = (nums s).getD k 0) := fun k hk => nat_at s k hk
  have HL : Hid ((nums s).length = s.size) := nums_length s
  go_enter Tryd.func24, Tryd.ntmps24
  go_wp2_with fail
  go_loopw [3, 4, 5] (fun v fv i wr => ∃ (k f : Nat) (D : List ByteArray), k ≤ s.size + 1 ∧ f ≤ k ∧ i = .int .i64 k ∧ fv = .int .i64 f ∧ Hid (wr.ownsRow w.heap.size 9 1 v D.length (strVs D)) ∧ Hid (Below w.heap.size w wr) ∧ Hid (D.length ≤ k) ∧
    Hid ((k ≤ s.size → 47 ∉ ((nums s).drop f).take (k - f) ∧ pieces (nums s) = txts D ++ pieces ((nums s).drop f)) ∧ (k = s.size + 1 → pieces (nums s) = txts D))) (fun _ _ i _ => s.size + 1 - (intOf i).toNat)
  case atStart => exact ⟨0, 0, [], by omega, by omega, rfl, rfl, World.ownsRow_nil _ _ _ _, Below.refl _ _, Nat.le_refl _, by show _ ∧ _; exact ⟨fun _ => ⟨by simp, by simp [txts]⟩, fun h => by omega⟩⟩
  case round =>
    obtain ⟨k, f, D, hk, hf, rfl, rfl, HO, HB, HN, HP⟩ := hrel
    by_cases hend : k ≤ s.size
    · have hez : (k : Int) ≤ (s.size : Int) := by omega
      by_cases hlt : k < s.size
      · obtain ⟨x, hx⟩ : ∃ x, x = (s[k]'hlt).toNat := ⟨_, rfl⟩
        have X : Hid (x = (nums s).getD k 0) := hx.trans (HA.out k hlt)
        have e0 : ((k : Int) == (s.size : Int)) = false := by simp; omega
        by_cases hp : x = 47
        · have e1 : (((s[k]'hlt).toNat : Int) == 47) = true := by rw [← hx]; simp [hp]
          have hfz : (f : Int) ≤ (k : Int) := by omega
          obtain ⟨t, ht⟩ : ∃ t, t = s.extract f k := ⟨_, rfl⟩
          have NT : Hid (nums t = ((nums s).drop f).take (k - f)) := by show _ = _; rw [ht]; exact nums_extract s f k
          have PP : Hid (pieces (nums s) = txts (D ++ [t]) ++ pieces ((nums s).drop (k + 1))) := by
            have h := HP.out.1 hend
            show _ = _
            rw [h.2, pieces_cut hf (by rw [HL.out]; exact hlt) h.1 (X.out.symm.trans hp), txts_app, List.append_assoc, ← NT.out]
            rfl
          have T := Lib.hid (strs_one wr t 9 (0, 0) _ rfl)
          rw [ht] at T
          clear hx hp
          go_wp2_with (at_builtin; refine wpList_append_strs rfl (.tmp 22) (.tmp 27) w.heap.size rfl _ _ _ rfl (HO.out.alloc _) _ 1 1 _ rfl T.out (by have := HN.out; omega) (by have := HB.out.size; simp; omega) ?_; intro v2 w2 hown2 hg2 hv2; obtain ⟨A2, c2, rfl⟩ := row_form hown2; rw [← ht, ← strVs_append] at hown2; have O2 := Lib.hid hown2; have B2 := Lib.hid (row_grown (HO.out.alloc _) (HB.out.alloc HB.out.size _) hg2 (by have := HB.out.size; simp; omega)); clear hown2 hg2 hv2)
          go_roundw
          case rel => exact ⟨k + 1, k + 1, D ++ [t], by omega, by omega, by go_num, by go_num, by show World.ownsRow _ _ _ _ _ _ _; rw [List.length_append]; exact O2.out, B2, by show _ ≤ _; have := HN.out; simp; omega, by
            show _ ∧ _
            exact ⟨fun _ => ⟨by simp, PP.out⟩, fun h => by omega⟩⟩
          case measure => simp [intOf]; omega
        · have e1 : (((s[k]'hlt).toNat : Int) == 47) = false := by rw [← hx]; simp; omega
          have PP : Hid (47 ∉ ((nums s).drop f).take (k + 1 - f)) := mid_mem hf (by rw [HL.out]; exact hlt) (HP.out.1 hend).1 (by rw [← X.out]; exact hp)
          clear hx hp
          go_wp2_with fail
          go_roundw
          case rel => exact ⟨k + 1, f, D, by omega, by omega, by go_num, rfl, HO, HB, by show _ ≤ _; have := HN.out; omega, by
            show _ ∧ _
            exact ⟨fun _ => ⟨PP.out, (HP.out.1 hend).2⟩, fun h => by omega⟩⟩
          case measure => simp [intOf]; omega
      · obtain rfl : k = s.size := by omega
        have hfz : (f : Int) ≤ (s.size : Int) := by omega
        obtain ⟨t, ht⟩ : ∃ t, t = s.extract f s.size := ⟨_, rfl⟩
        have NT : Hid (nums t = (nums s).drop f) := by show _ = _; rw [ht]; exact nums_drop s f
        have PP : Hid (pieces (nums s) = txts (D ++ [t])) := by
          have h := HP.out.1 hend
          have e : ((nums s).drop f).take (s.size - f) = (nums s).drop f := List.take_of_length_le (by rw [List.length_drop, HL.out]; exact Nat.le_refl _)
          rw [e] at h
          show _ = _
          rw [h.2, pieces_one h.1, txts_app, ← NT.out]
          rfl
        have T := Lib.hid (strs_one wr t 9 (0, 0) _ rfl)
        rw [ht] at T
        go_wp2_with (at_builtin; refine wpList_append_strs rfl (.tmp 22) (.tmp 27) w.heap.size rfl _ _ _ rfl (HO.out.alloc _) _ 1 1 _ rfl T.out (by have := HN.out; omega) (by have := HB.out.size; simp; omega) ?_; intro v2 w2 hown2 hg2 hv2; obtain ⟨A2, c2, rfl⟩ := row_form hown2; rw [← ht, ← strVs_append] at hown2; have O2 := Lib.hid hown2; have B2 := Lib.hid (row_grown (HO.out.alloc _) (HB.out.alloc HB.out.size _) hg2 (by have := HB.out.size; simp; omega)); clear hown2 hg2 hv2)
        go_roundw
        case rel => exact ⟨s.size + 1, s.size + 1, D ++ [t], by omega, by omega, by go_num, by go_num, by show World.ownsRow _ _ _ _ _ _ _; rw [List.length_append]; exact O2.out, B2, by show _ ≤ _; have := HN.out; simp; omega, by
            show _ ∧ _
            exact ⟨fun h => by omega, fun _ => PP.out⟩⟩
        case measure => simp [intOf]
    · have hez : ¬ (k : Int) ≤ (s.size : Int) := by omega
      obtain ⟨A, c, rfl⟩ := row_form HO.out
      have PP := HP.out.2 (by omega)
      have S := Lib.hid (strs_row HO.out)
      go_wp2_with fail
      go_ret
      exact ⟨⟨A, c, D, rfl, S.out, PP.symm⟩, HB.out⟩
end Go.Proofs.YtpnmddealjoiiaaDoor
