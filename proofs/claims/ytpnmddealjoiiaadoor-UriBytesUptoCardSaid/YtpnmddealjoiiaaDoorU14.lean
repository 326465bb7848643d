/-
  uri: isClean, isDots, isSegment, printable.
-/
import Derived.Test.YtpnmddealjoiiaaDoorU13
import Derived.Test.YtpnmddealjoiiaaDoorU8
namespace Go.Proofs.YtpnmddealjoiiaaDoor
open Go.RowKit Uri

/-- A place that is told, or none. -/
def IdxE (p : Prop) (e : Ending) : Prop := ∃ i : Int, e = .returned (.int .i64 i) ∧ (0 ≤ i ↔ p)
theorem IdxE.yes {p : Prop} (hp : p) {i : Int} (hi : 0 ≤ i) : IdxE p (.returned (.int .i64 i)) := ⟨i, rfl, fun _ => hp, fun _ => hi⟩
theorem IdxE.no {p : Prop} (hp : ¬ p) : IdxE p (.returned (.int .i64 (-1))) := ⟨-1, rfl, fun h => by omega, fun h => absurd h hp⟩
theorem irune_low (w : World) (C : ByteArray) (hC : C = bad2) (r : Nat) (h : r < 128) :
    Calls Tryd.prog 66 #[.string C, .int .i32 (r : Int)] w fun e w' => IdxE (r = 0 ∨ r = 47) e ∧ w' = w := by
  subst hC
  refine (Tryd.strings_IndexRune_ascii bad2 (r : Int) w (by omega) (by omega)).mono ?_
  rintro e w' ⟨rfl, rfl⟩
  refine ⟨⟨_, rfl, ?_⟩, rfl⟩
  have e1 : ((r : Int)).toNat.toUInt8.toNat = r := by simp; omega
  have h1 := Lib.contains_iff_indexByte bad2.data.toList ((r : Int)).toNat.toUInt8
  rw [bad2_contains, e1] at h1
  have h2 := decide_eq_decide.1 h1
  exact h2.symm
theorem mem_next {l : List Nat} {k x : Nat} (h : k < l.length) : x ∈ l.take (k + 1) ↔ x ∈ l.take k ∨ x = l.getD k 0 := by
  rw [take_next h, List.mem_append]
  simp
theorem mem_more {l : List Nat} {i x : Nat} (hx : x < 128) : ∀ n, i + n ≤ l.length → (∀ j < n, 128 ≤ l.getD (i + j) 0) → x ∉ l.take i → x ∉ l.take (i + n)
  | 0, _, _, h => h
  | n + 1, hl, h, hi => by
    have ih := mem_more hx n (by omega) (fun j hj => h j (by omega)) hi
    have h1 := h n (by omega)
    rw [show i + (n + 1) = i + n + 1 by omega, mem_next (by omega)]
    rintro (h2 | h2)
    · exact ih h2
    · omega
set_option maxRecDepth 100000 in
set_option maxHeartbeats 3200000 in
theorem iany_short (w : World) (s C : ByteArray) (hC : C = bad2) (h8 : s.size ≤ 8) (hv : utf8 (nums s) = true) :
    Calls Tryd.prog 60 #[.string s, .string C] w fun e w' => IdxE (0 ∈ nums s ∨ 47 ∈ nums s) e ∧ Below w.heap.size w w' := by
  have HC := Lib.hid hC
  have hemp : C.toList.isEmpty = false := by rw [hC, ByteArray.toList_eq]; rfl
  have hcs : C.size = 2 := by rw [hC]; rfl
  have hn1 : ((C.size : Int) == 1) = false := by rw [hcs]; rfl
  have h8z : decide ((8 : Int) < (s.size : Int)) = false := decide_eq_false (by omega)
  have SA := Lib.hid (Tryd.strings_shouldUseASCIISet (s.size : Int) w)
  rw [h8z] at SA
  have HV := Lib.hid hv
  have HL : Hid ((nums s).length = s.size) := nums_length s
  clear hC hv h8z hcs
  go_enter Tryd.func60, Tryd.ntmps60
  go_wp2_with fail
  refine SA.out.mono ?_
  rintro e w' ⟨rfl, rfl⟩
  clear SA
  go_wp2_with fail
  go_loopg [9, 10] s.size (fun g _ _ wx => ∃ i : Nat, i + g = s.size ∧ Hid (Below w'.heap.size w' wx) ∧ Hid (wx.heap[w'.heap.size]? = some (.stringIter s i)) ∧ Hid (utf8 ((nums s).drop i) = true) ∧ Hid (0 ∉ (nums s).take i ∧ 47 ∉ (nums s).take i))
  case atStart => exact ⟨0, by omega, (Below.refl _ _).alloc (Nat.le_refl _) _, World.iter_heap w' s 0, by show _ = _; rw [List.drop_zero]; exact HV.out, by show _ ∧ _; simp⟩
  case round =>
    obtain ⟨i, hig, HB, HI, HU, HN⟩ := hrel
    cases gk with
    | zero =>
      obtain rfl : i = s.size := by omega
      have hnx := fun ty => Lib.run_next_end_at (P := Tryd.prog) wr w'.heap.size s s.size ty HI.out (by omega)
      have F : Hid (¬ (0 ∈ nums s ∨ 47 ∈ nums s)) := by
        have := HN.out
        rw [← HL.out, List.take_length] at this
        show ¬ _
        rintro (h | h)
        · exact this.1 h
        · exact this.2 h
      go_wp2
      go_ret
      exact ⟨IdxE.no F.out, HB.out⟩
    | succ g =>
      have hi : i < s.size := by omega
      have hil : i < (nums s).length := by rw [HL.out]; exact hi
      have hne : (nums s).drop i ≠ [] := fun h => by
        have := congrArg List.length h
        rw [List.length_drop, HL.out] at this
        simp at this
        omega
      have hnx := fun ty => Lib.run_next_any_at (P := Tryd.prog) wr w'.heap.size s i ty HI.out hi
      have DS := decode_step s i hi
      have hnb : ¬ ((Utf8.decode s i).1 = 65533 ∧ (Utf8.decode s i).2 = 1) := fun h => by
        rw [if_pos h] at DS
        have := utf8_none hne DS
        rw [HU.out] at this
        cases this
      rw [if_neg hnb] at DS
      have DR := step_range hne DS
      rw [List.length_drop, HL.out] at DR
      have DU := utf8_step hne DS
      rw [HU.out, List.drop_drop] at DU
      have HX : Hid ((nums s).getD i 0 < 128 → Utf8.decode s i = ((nums s).getD i 0, 1)) := fun h => by
        have := decode_ascii s i hi (by rw [nat_at s i hi]; exact h)
        rw [this, nat_at s i hi]
      have HH : Hid (128 ≤ (nums s).getD i 0 → 128 ≤ (Utf8.decode s i).1 ∧ (((Utf8.decode s i).1 < 55296) ∨ (57343 < (Utf8.decode s i).1 ∧ (Utf8.decode s i).1 ≤ 1114111))) := fun h => decode_high s i h hnb
      have HS : Hid (128 ≤ (nums s).getD i 0 → ∀ j < (Utf8.decode s i).2, 128 ≤ (nums s).getD (i + j) 0) := fun h j hj => by
        have := (step_high DS (by rw [drop_getD]; exact h)).2 j hj
        rwa [drop_getD] at this
      clear DS hnb hne
      obtain ⟨r, n, hD⟩ : ∃ r n, Utf8.decode s i = (r, n) := ⟨_, _, rfl⟩
      simp only [hD] at hnx DR DU HX HH HS
      clear hD
      obtain ⟨W2, hW2⟩ : ∃ W2, W2 = wr.iterAt w'.heap.size s (i + n) := ⟨_, rfl⟩
      have B2 : Hid (Below w'.heap.size w' W2) := by rw [hW2]; exact Lib.below_iterAt HB.out (Nat.le_refl _) s _
      have I2 : Hid (W2.heap[w'.heap.size]? = some (.stringIter s (i + n))) := by rw [hW2]; exact Lib.iterAt_heap _ _ _ _ _ HI.out
      have U2 : Hid (utf8 ((nums s).drop (i + n)) = true) := DU.symm
      have LT : Hid (w'.heap.size < W2.heap.size) := (Array.getElem?_eq_some_iff.1 I2.out).1
      rw [← hW2] at hnx
      clear hW2 DU HI
      by_cases hx : (nums s).getD i 0 < 128
      · have h1 := HX.out hx
        simp only [Prod.mk.injEq] at h1
        obtain ⟨rfl, rfl⟩ := h1
        obtain ⟨x, hxx⟩ : ∃ x, x = (nums s).getD i 0 := ⟨_, rfl⟩
        rw [← hxx] at hnx hx
        have IR := Lib.hid (irune_low W2 C HC.out x hx)
        have X := Lib.hid hxx
        clear hxx hx HX HH HS
        go_wp2_with fail
        refine IR.out.mono ?_
        rintro e w3 ⟨⟨q, rfl, hq⟩, rfl⟩
        by_cases hb : x = 0 ∨ x = 47
        · have hq0 := hq.2 hb
          have P1 : Hid (0 ∈ nums s ∨ 47 ∈ nums s) := by
            show _ ∨ _
            rcases hb with h | h
            · exact .inl (by rw [← h, X.out]; exact getD_mem hil)
            · exact .inr (by rw [← h, X.out]; exact getD_mem hil)
          clear hq hb
          go_wp2_with fail
          go_ret
          exact ⟨IdxE.yes P1.out (by omega), B2.out⟩
        · have hq0 : ¬ 0 ≤ q := fun h => hb (hq.1 h)
          have N2 : Hid (0 ∉ (nums s).take (i + 1) ∧ 47 ∉ (nums s).take (i + 1)) := by
            show _ ∧ _
            rw [mem_next hil, mem_next hil, ← X.out]
            exact ⟨fun h => h.elim HN.out.1 (fun h => hb (.inl h.symm)), fun h => h.elim HN.out.2 (fun h => hb (.inr h.symm))⟩
          clear hq hb
          go_wp2_with fail
          go_roundg g
          case measure => omega
          case rel => exact ⟨i + 1, by omega, B2, I2, U2, N2⟩
      · have h128 : 128 ≤ (nums s).getD i 0 := by omega
        obtain ⟨r1, r2⟩ := HH.out h128
        have N2 : Hid (0 ∉ (nums s).take (i + n) ∧ 47 ∉ (nums s).take (i + n)) := ⟨mem_more (by omega) n (by rw [HL.out]; omega) (HS.out h128) HN.out.1, mem_more (by omega) n (by rw [HL.out]; omega) (HS.out h128) HN.out.2⟩
        have IR : Hid (Calls Tryd.prog 66 #[.string C, .int .i32 (r : Int)] W2 fun e w' => e = .returned (.int .i64 (-1)) ∧ Below W2.heap.size W2 w') := by
          by_cases he : (r : Int) = 65533
          · have := irune_error W2 C HC.out
            rw [← he] at this
            exact this
          · exact irune_high W2 C HC.out r (by omega) he (by omega)
        clear HX HH HS hx h128 r1 r2
        go_wp2_with fail
        refine IR.out.mono ?_
        rintro e w3 ⟨rfl, hb3⟩
        have B3 : Hid (Below w'.heap.size w' w3) := B2.out.trans (hb3.mono B2.out.size)
        have I3 : Hid (w3.heap[w'.heap.size]? = some (.stringIter s (i + n))) := (hb3.block _ LT.out).trans I2.out
        clear IR hb3
        go_wp2_with fail
        go_roundg (s.size - (i + n))
        case measure => omega
        case rel => exact ⟨i + n, by omega, B3, I3, U2, N2⟩
theorem contains_any (w : World) (s C : ByteArray) (hC : C = bad2) (hs : s.size ≤ 4194304) (hv : utf8 (nums s) = true) :
    Calls Tryd.prog 50 #[.string s, .string C] w fun e w' => e = .returned (.bool (decide (0 ∈ nums s ∨ 47 ∈ nums s))) ∧ Below w.heap.size w w' := by
  have IA : Hid (Calls Tryd.prog 60 #[.string s, .string C] w fun e w' => IdxE (0 ∈ nums s ∨ 47 ∈ nums s) e ∧ Below w.heap.size w w') := by
    by_cases h8 : s.size ≤ 8
    · exact iany_short w s C hC h8 hv
    · subst hC
      refine (Tryd.strings_IndexAny_long zero_set s bad2 w (by show 2 ≤ 2; omega) (by omega) (by omega) (by show 2 < _; omega) (fun j b hj => ?_)).mono ?_
      · have hj' : [(0 : UInt8), 47][j]? = some b := hj
        match j, hj' with
        | 0, h => simp at h; subst h; decide
        | 1, h => simp at h; subst h; decide
        | j + 2, h => simp at h
      · rintro e w' ⟨rfl, rfl⟩
        exact ⟨⟨_, rfl, indexAny_bad2 _⟩, ((Below.refl _ _).alloc (Nat.le_refl _) _).alloc (by simp) _⟩
  clear hC hv
  go_enter Tryd.func50, Tryd.ntmps50
  go_wp2_with fail
  refine IA.out.mono ?_
  rintro e w' ⟨⟨q, rfl, hq⟩, hb⟩
  have HB := Lib.hid hb
  have HQ : Hid (decide (0 ≤ q) = decide (0 ∈ nums s ∨ 47 ∈ nums s)) := decide_eq_decide.2 hq
  clear IA hb hq
  go_wp2_with fail
  go_ret
  exact ⟨ret_bool HQ.out, HB.out⟩
end Go.Proofs.YtpnmddealjoiiaaDoor
