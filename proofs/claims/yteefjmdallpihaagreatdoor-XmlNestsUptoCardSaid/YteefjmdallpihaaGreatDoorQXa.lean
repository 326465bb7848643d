/-
  xml: strings.IndexAny of '<' and '&', of whatever bytes.
-/
import Derived.Test.YteefjmdallpihaaGreatDoorQX9
import Derived.Lib.IndexBytes
import Derived.Laws.Strings3
import Derived.Laws.Runes
import Derived.BigQuiet
namespace Go.Proofs.YteefjmdallpihaaGreatDoor
open Go.RowKit Reply Go.Shelf

/-- The two bytes. -/
def two2 : ByteArray := ⟨#[60, 38]⟩
set_option maxRecDepth 100000 in
set_option maxHeartbeats 1600000 in
theorem iruneX_error (w : World) (C : ByteArray) (hC : C = two2) :
    Calls Tryz.prog 105 #[.string C, .int .i32 65533] w fun e w' => e = .returned (.int .i64 (-1)) ∧ Below w.heap.size w w' := by
  have hs : C.size = 2 := by rw [hC]; rfl
  have h0 : ∀ h : 0 < C.size, (C[0]'h).toNat = 60 := by subst hC; intro h; rfl
  have h1 : ∀ h : 1 < C.size, (C[1]'h).toNat = 38 := by subst hC; intro h; rfl
  clear hC
  have BI : Hid (∀ pos, Below w.heap.size w (w.iter C pos)) := fun pos => (Below.refl _ _).alloc (Nat.le_refl _) _
  go_enter Tryz.func105, Tryz.ntmps105
  go_wp2_with fail
  go_loopg [5, 6] 2 (fun g _ _ wx => ∃ i : Nat, i + g = 2 ∧ wx = w.iter C i)
  case atStart => exact ⟨0, rfl, rfl⟩
  case round =>
    obtain ⟨i, hig, rfl⟩ := hrel
    cases gk with
    | zero =>
      obtain rfl : i = 2 := by omega
      have hnx := fun ty => run_next_end (P := Tryz.prog) w C 2 ty (by omega)
      go_wp2
      go_ret
      exact ⟨rfl, BI.out _⟩
    | succ g =>
      have hi : i < C.size := by omega
      have hx : (C[i]'hi).toNat ≠ 65533 ∧ (C[i]'hi).toNat < 128 := by
        have : i = 0 ∨ i = 1 := by omega
        rcases this with rfl | rfl
        · rw [h0 hi]; omega
        · rw [h1 hi]; omega
      have hnx := fun ty => run_next_ascii (P := Tryz.prog) w C i ty hi hx.2
      have hq : (((C[i]'hi).toNat : Int) == 65533) = false := by rw [beq_eq_false_iff_ne]; have := hx.1; omega
      clear hx
      go_wp2_with fail
      go_roundg g
      case measure => omega
      case rel => exact ⟨i + 1, by omega, rfl⟩
set_option maxRecDepth 100000 in
set_option maxHeartbeats 3200000 in
theorem iruneX_high (w : World) (C : ByteArray) (hC : C = two2) (r : Int) (h128 : 128 ≤ r) (he : r ≠ 65533) (hv : r < 55296 ∨ (57343 < r ∧ r ≤ 1114111)) :
    Calls Tryz.prog 105 #[.string C, .int .i32 r] w fun e w' => e = .returned (.int .i64 (-1)) ∧ Below w.heap.size w w' := by
  have hs : C.size = 2 := by rw [hC]; rfl
  have h1 : ∀ h : 1 < C.size, (C[1]'h).toNat = 38 := by subst hC; intro h; rfl
  clear hC
  have uv : Utf8.valid r = true := by unfold Utf8.valid; simp only [Bool.or_eq_true, Bool.and_eq_true, decide_eq_true_eq]; omega
  obtain ⟨n2, n4, hl⟩ := encode_facts r uv h128
  have lv : Lib.validRune r = true := by unfold Lib.validRune; exact decide_eq_true (by omega)
  have VR := Lib.hid (Tryz.utf8_ValidRune r w)
  rw [lv] at VR
  have g1 : ¬ r < 128 := by omega
  have g0 : (0 : Int) ≤ r := by omega
  have g2 : (r == 65533) = false := by rw [beq_eq_false_iff_ne]; exact he
  clear uv lv hv he
  go_enter Tryz.func105, Tryz.ntmps105
  go_wp2_with fail
  refine VR.out.mono ?_
  rintro e w' ⟨rfl, rfl⟩
  clear VR
  obtain ⟨R, hR⟩ : ∃ R, Utf8.encode r = R := ⟨_, rfl⟩
  rw [hR] at n2 n4 hl
  have hcv : ∀ u, (convert 21 9 (.int .i32 r)).run Tryz.prog u = .ok (.string R) u := fun u => by rw [run_convert_int_string u _ _ _ _ (by kernel_rfl) Tryz.underlying9, hR]
  clear hR
  have hsub : (R.size : Int) - 1 = ((R.size - 1 : Nat) : Int) := by omega
  by_cases h3 : 3 ≤ R.size
  · go_wp2_with fail
    go_step3
    go_wp2_with fail
    go_loop [9, 10] (fun i f => i = .int .i64 ((R.size - 1 : Nat) : Int) ∧ f = .int .i64 0) (fun _ _ => 0)
    case atStart => exact ⟨rfl, rfl⟩
    case round =>
      obtain ⟨rfl, rfl⟩ := hrel
      have hge : ¬ ((R.size - 1 : Nat) : Int) < 2 := by omega
      go_wp2_with fail
      go_ret
      exact ⟨rfl, Below.refl _ _⟩
  · have h2 : R.size = 2 := by omega
    have hy : 1 < R.size := by omega
    have hyb : 128 ≤ (R[1]'hy).toNat := by
      have := hl (by omega)
      have e : R.size - 1 = 1 := by omega
      simp only [e] at this
      exact this
    obtain ⟨y, hyy⟩ : ∃ y, y = (R[1]'hy).toNat := ⟨_, rfl⟩
    rw [← hyy] at hyb
    have ey : ((R[1]'hy).toNat : Int) = (y : Int) := by rw [← hyy]
    have e47 : ((C[1]'(by omega)).toNat : Int) = 38 := by rw [h1 (by omega)]; rfl
    have hne : ((38 : Int) != (y : Int)) = true := by rw [bne_iff_ne]; omega
    have HYB : Hid (128 ≤ y) := hyb
    clear hl hyb hyy h1 h3 hsub
    have IB : Hid (∀ (c : Int) (u : World), Calls Tryz.prog 114 #[.string ByteArray.empty, .int .u8 c] u fun e w' => e = .returned (.int .i64 (-1)) ∧ w' = u) := fun c u => Tryz.strings_IndexByte ByteArray.empty c u
    go_wp2_with fail
    go_step3
    go_wp2_with fail
    go_loop [9, 10] (fun i f => i = .int .i64 1 ∧ f = .int .i64 0) (fun _ _ => 0)
    case atStart => exact ⟨rfl, rfl⟩
    case round =>
      obtain ⟨rfl, rfl⟩ := hrel
      go_wp2_with fail
      go_step3
      go_wp2_with fail
      go_quiet (fail)
      go_wp2_with fail
      obtain ⟨w2, hw2q⟩ : ∃ w2, w2 = w'.drewN nq := ⟨_, rfl⟩
      have BW : Hid (Below w'.heap.size w' w2) := by rw [hw2q]; exact ⟨rfl, rfl, rfl, Nat.le_refl _, fun _ _ => rfl⟩
      rw [← hw2q]
      clear hw2q
      have hw2 : IntKind.i64.wrap (2 : Int) = 2 := by decide
      go_quiet ((go_at_call 114; exact Calls.quiet_of_same (IB.out _ _)))
      go_wp2_with fail
      simp +zetaDelta only [Exit.inBlock, Exit.then, Exit.noGoto_ret]
      go_ret
      exact ⟨rfl, BW.out.trans ⟨rfl, rfl, rfl, Nat.le_refl _, fun _ _ => rfl⟩⟩

theorem two2_contains (b : UInt8) : two2.data.toList.contains b = decide (b = 60 ∨ b = 38) := by
  show [(60 : UInt8), 38].contains b = _
  rw [Bool.eq_iff_iff, List.contains_iff_mem, decide_eq_true_iff]
  simp
theorem iruneX_low (w : World) (C : ByteArray) (hC : C = two2) (c : UInt8) (h : c.toNat < 128) :
    Calls Tryz.prog 105 #[.string C, .int .i32 (c.toNat : Int)] w fun e w' => (∃ i : Int, e = .returned (.int .i64 i) ∧ (0 ≤ i ↔ (c = 60 ∨ c = 38))) ∧ w = w' := by
  subst hC
  refine (Tryz.strings_IndexRune_ascii two2 (c.toNat : Int) w (by omega) (by omega)).mono ?_
  rintro e w' ⟨rfl, rfl⟩
  refine ⟨⟨_, rfl, ?_⟩, rfl⟩
  have e1 : ((c.toNat : Int)).toNat.toUInt8 = c := by simp
  have h1 := Lib.contains_iff_indexByte two2.data.toList ((c.toNat : Int)).toNat.toUInt8
  rw [two2_contains, e1] at h1
  have h2 := decide_eq_decide.1 h1
  rw [e1]
  exact h2.symm
theorem indexAny_past : ∀ {l o : Reply.B} (i : Nat), (∀ c ∈ l.take i, o.contains c = false) → Lib.indexAny l o = if Lib.indexAny (l.drop i) o = -1 then -1 else Lib.indexAny (l.drop i) o + (min i l.length : Nat)
  | [], o, i, _ => by
    have : Lib.indexAny ([] : Reply.B) o = -1 := by unfold Lib.indexAny; rfl
    rw [List.drop_nil, this, if_pos rfl]
  | c :: l, o, 0, _ => by
    rw [List.drop_zero]
    split
    · rename_i h; exact h
    · simp
  | c :: l, o, i + 1, h => by
    have hc := h c (by simp)
    have ih := indexAny_past (l := l) (o := o) i (fun d hd => h d (by rw [List.take_succ_cons]; exact List.mem_cons_of_mem _ hd))
    have e : Lib.indexAny (c :: l) o = if Lib.indexAny l o = -1 then -1 else Lib.indexAny l o + 1 := by
      rw [Lib.indexAny]
      simp only [hc, Bool.false_eq_true, if_false]
      by_cases hq : Lib.indexAny l o = -1
      · simp [hq]
      · simp [hq]
    have hge := indexAny_le (l.drop i) o
    rw [e, List.drop_succ_cons, ih]
    by_cases hq : Lib.indexAny (l.drop i) o = -1
    · rw [if_pos hq, if_pos hq, if_pos rfl]
    · rw [if_neg hq, if_neg hq, if_neg (by omega)]
      simp only [List.length_cons]
      omega
theorem two2_take {l : Reply.B} {i n : Nat} (h : ∀ c ∈ l.take i, two2.data.toList.contains c = false) (hn : i + n ≤ l.length) (h2 : ∀ j, j < n → two2.data.toList.contains (l.getD (i + j) 0) = false) : ∀ c ∈ l.take (i + n), two2.data.toList.contains c = false := by
  induction n with
  | zero => exact h
  | succ n ih =>
    have ih := ih (by omega) (fun j hj => h2 j (by omega))
    intro c hc
    rw [show i + (n + 1) = (i + n) + 1 by omega, List.take_succ_eq_append_getElem (by omega : i + n < l.length)] at hc
    rcases List.mem_append.1 hc with hc | hc
    · exact ih c hc
    · have e : c = l[i + n] := by simpa using hc
      have := h2 n (by omega)
      rw [List.getD_eq_getElem?_getD, List.getElem?_eq_getElem (by omega : i + n < l.length)] at this
      rw [e]
      exact this
set_option maxRecDepth 100000 in
set_option maxHeartbeats 3200000 in
theorem ianyX_short (w : World) (l : Reply.B) (C : ByteArray) (hC : C = two2) (h8 : l.length ≤ 8) :
    Calls Tryz.prog 103 #[.string (S l), .string C] w fun e w' => e = .returned (.int .i64 (Lib.indexAny l two2.data.toList)) ∧ Below w.heap.size w w' := by
  have HC := Lib.hid hC
  have LS := S_size l
  have hemp : C.toList.isEmpty = false := by rw [hC, ByteArray.toList_eq]; rfl
  have hcs : C.size = 2 := by rw [hC]; rfl
  have hn1 : ((C.size : Int) == 1) = false := by rw [hcs]; rfl
  have h8z : decide ((8 : Int) < ((S l).size : Int)) = false := decide_eq_false (by omega)
  have SA := Lib.hid (Tryz.strings_shouldUseASCIISet ((S l).size : Int) w)
  rw [h8z] at SA
  obtain ⟨R, hR⟩ : ∃ x, x = Lib.indexAny l two2.data.toList := ⟨_, rfl⟩
  rw [← hR]
  have HR := Lib.hid hR
  obtain ⟨sl, hsl⟩ : ∃ x, x = S l := ⟨_, rfl⟩
  have HSL := Lib.hid hsl
  rw [← hsl] at SA LS ⊢
  have LN : Hid (sl.size = l.length) := LS
  clear hC h8z hcs hR hsl LS
  go_enter Tryz.func103, Tryz.ntmps103
  go_wp2_with fail
  refine SA.out.mono ?_
  rintro e w' ⟨rfl, rfl⟩
  clear SA
  go_wp2_with fail
  go_loopg [9, 10] sl.size (fun g _ _ wx => ∃ i : Nat, i + g = sl.size ∧ Hid (Below w'.heap.size w' wx) ∧ Hid (wx.heap[w'.heap.size]? = some (.stringIter sl i)) ∧ Hid (∀ c ∈ l.take i, two2.data.toList.contains c = false))
  case atStart => exact ⟨0, by omega, (Below.refl _ _).alloc (Nat.le_refl _) _, World.iter_heap w' sl 0, by show ∀ c ∈ _, _; simp⟩
  case round =>
    obtain ⟨i, hig, HB, HI, HN⟩ := hrel
    cases gk with
    | zero =>
      obtain rfl : i = sl.size := by omega
      have hnx := fun ty => Lib.run_next_end_at (P := Tryz.prog) wr w'.heap.size sl sl.size ty HI.out (by omega)
      have F : Hid (R = -1) := by
        have := indexAny_past sl.size HN.out
        rw [LN.out, List.drop_length] at this
        show _ = _
        rw [HR.out, this]
        rfl
      go_wp2
      go_ret
      exact ⟨by rw [F.out]; rfl, HB.out⟩
    | succ g =>
      have hi : i < sl.size := by omega
      have hil : i < l.length := by rw [← LN.out]; exact hi
      have hnx := fun ty => Lib.run_next_any_at (P := Tryz.prog) wr w'.heap.size sl i ty HI.out hi
      have hd : Utf8.decode sl i = Xml.stepD (l.drop i) := by rw [HSL.out]; exact Xml.decode_step l i
      have hne : l.drop i ≠ [] := fun h => by
        have := congrArg List.length h
        rw [List.length_drop] at this
        simp at this
        omega
      have hw := Xml.stepD_len hne
      have hpos := Xml.stepD_pos (l := l.drop i)
      rw [List.length_drop] at hw
      have dg : ∀ j, (l.drop i).getD j 0 = l.getD (i + j) 0 := fun j => by rw [List.getD_eq_getElem?_getD, List.getElem?_drop, List.getD_eq_getElem?_getD]
      have XL : Hid ((l.getD i 0).toNat < 128 → Xml.stepD (l.drop i) = ((l.getD i 0).toNat, 1)) := fun h => by
        have := Xml.stepD_low (l := l.drop i) (by rw [dg]; exact h)
        rw [dg] at this
        exact this
      have XH : Hid (128 ≤ (l.getD i 0).toNat → 128 ≤ (Xml.stepD (l.drop i)).1 ∧ ((Xml.stepD (l.drop i)).1 < 55296 ∨ (57343 < (Xml.stepD (l.drop i)).1 ∧ (Xml.stepD (l.drop i)).1 ≤ 1114111)) ∧ ∀ j, j < (Xml.stepD (l.drop i)).2 → 128 ≤ (l.getD (i + j) 0).toNat) := fun h => by
        obtain ⟨a, b, c⟩ := Xml.stepD_high (l := l.drop i) (by rw [dg]; exact h)
        exact ⟨a, b, fun j hj => by rw [← dg]; exact c j hj⟩
      rw [hd] at hnx
      obtain ⟨r, n, hD⟩ : ∃ r n, Xml.stepD (l.drop i) = (r, n) := ⟨_, _, rfl⟩
      simp only [hD] at hnx hw hpos XL XH
      clear hD hd hne dg
      have hn2 : i + n ≤ sl.size := by rw [LN.out]; omega
      obtain ⟨W2, hW2⟩ : ∃ W2, W2 = wr.iterAt w'.heap.size sl (i + n) := ⟨_, rfl⟩
      have B2 : Hid (Below w'.heap.size w' W2) := by rw [hW2]; exact Lib.below_iterAt HB.out (Nat.le_refl _) sl _
      have I2 : Hid (W2.heap[w'.heap.size]? = some (.stringIter sl (i + n))) := by rw [hW2]; exact Lib.iterAt_heap _ _ _ _ _ HI.out
      have LT : Hid (w'.heap.size < W2.heap.size) := (Array.getElem?_eq_some_iff.1 I2.out).1
      rw [← hW2] at hnx
      clear hW2 HI
      by_cases hx : (l.getD i 0).toNat < 128
      · have h1 := XL.out hx
        simp only [Prod.mk.injEq] at h1
        obtain ⟨rfl, rfl⟩ := h1
        obtain ⟨c, hc⟩ : ∃ c, c = l.getD i 0 := ⟨_, rfl⟩
        rw [← hc] at hnx hx
        have IR := Lib.hid (iruneX_low W2 C HC.out c hx)
        have HCC := Lib.hid hc
        clear hc hx XL XH
        go_wp2_with fail
        refine IR.out.mono ?_
        rintro e w3 ⟨⟨q, rfl, hq⟩, rfl⟩
        by_cases hb : c = 60 ∨ c = 38
        · have hq0 := hq.2 hb
          have hqd : decide ((0 : Int) ≤ q) = true := decide_eq_true hq0
          have F : Hid (R = (i : Int)) := by
            have h2 := indexAny_past i HN.out
            have e2 : l.drop i = c :: l.drop (i + 1) := by
              rw [HCC.out, List.getD_eq_getElem?_getD, List.getElem?_eq_getElem hil]
              exact List.drop_eq_getElem_cons hil
            have e3 : Lib.indexAny (l.drop i) two2.data.toList = 0 := by
              rw [e2, Lib.indexAny, two2_contains, decide_eq_true hb]
              rfl
            rw [e3, if_neg (by decide)] at h2
            show _ = _
            rw [HR.out, h2]
            omega
          clear hb hq IR HCC
          go_wp2_with fail
          go_ret
          exact ⟨by rw [F.out]; rfl, B2.out⟩
        · have hq0 : q < 0 := by
            rcases Int.lt_or_le q 0 with h | h
            · exact h
            · exact absurd (hq.1 h) hb
          have hqd : decide ((0 : Int) ≤ q) = false := decide_eq_false (by omega)
          have N2 : Hid (∀ c ∈ l.take (i + 1), two2.data.toList.contains c = false) := two2_take HN.out (by omega) (fun j hj => by
            have : j = 0 := by omega
            subst this
            rw [Nat.add_zero, ← HCC.out, two2_contains, decide_eq_false hb])
          clear hb hq IR HCC
          go_wp2_with fail
          go_roundg g
          case measure => omega
          case rel => exact ⟨i + 1, by omega, B2, I2, N2⟩
      · have h128 : 128 ≤ (l.getD i 0).toNat := by omega
        obtain ⟨r1, r2, r3⟩ := XH.out h128
        have N2 : Hid (∀ c ∈ l.take (i + n), two2.data.toList.contains c = false) := two2_take HN.out (by omega) (fun j hj => by
          have h3 := r3 j hj
          rw [two2_contains, decide_eq_false]
          rintro (h | h) <;> rw [h] at h3 <;> exact absurd h3 (by decide))
        have IR : Hid (Calls Tryz.prog 105 #[.string C, .int .i32 (r : Int)] W2 fun e w' => e = .returned (.int .i64 (-1)) ∧ Below W2.heap.size W2 w') := by
          by_cases he : r = 65533
          · rw [he]
            exact iruneX_error W2 C HC.out
          · exact iruneX_high W2 C HC.out (r : Int) (by omega) (by omega) (by omega)
        clear r3 XL XH hx h128
        go_wp2_with fail
        refine IR.out.mono ?_
        rintro e w3 ⟨rfl, b3⟩
        have B3 := Lib.hid (B2.out.trans (b3.mono B2.out.size))
        have I3 : Hid (w3.heap[w'.heap.size]? = some (.stringIter sl (i + n))) := (b3.block _ LT.out).trans I2.out
        clear b3 IR
        go_wp2_with fail
        go_roundg (sl.size - (i + n))
        case measure => omega
        case rel => exact ⟨i + n, by omega, B3, I3, N2⟩
theorem idxX : IdxX := by
  intro u l o E ho hl
  have LS := S_size l
  rcases ho with rfl | rfl
  · by_cases h8 : 8 < l.length
    · refine (Any.strings_IndexAny_long Tryz.lays153 (zero_of_info (P := Tryz.prog) (t := 107) (v := .agg (Array.replicate 256 (.bool false))) (n := 256) (by kernel_rfl)).1 (zero_of_info (P := Tryz.prog) (t := 107) (v := .agg (Array.replicate 256 (.bool false))) (n := 256) (by kernel_rfl)).2 (S l) (S [60, 38]) u (by decide) (by rw [LS]; exact h8) (by rw [LS]; omega) (by decide) ?_).mono ?_
      · intro j b hb
        match j, hb with
        | 0, hb => cases hb; decide
        | 1, hb => cases hb; decide
      · rintro e w' ⟨rfl, rfl⟩
        exact ⟨rfl, ((Below.refl _ _).alloc (Nat.le_refl _) _).alloc (by simp) _⟩
    · exact ianyX_short u l (S [60, 38]) rfl (by omega)
  · refine (Any.strings_IndexAny_one Tryz.lays153 (S l) (S [38]) u rfl ?_).mono ?_
    · intro j b hb
      match j, hb with
      | 0, hb => cases hb; decide
    · rintro e w' ⟨rfl, rfl⟩
      exact ⟨rfl, Below.refl _ _⟩
end Go.Proofs.YteefjmdallpihaaGreatDoor
