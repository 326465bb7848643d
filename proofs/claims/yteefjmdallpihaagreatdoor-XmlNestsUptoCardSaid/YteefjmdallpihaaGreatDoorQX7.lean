/-
  xml: elements and contents, whatever the fuel; isLetters, isShort, isName, isGoodName.
-/
import Derived.Test.YteefjmdallpihaaGreatDoorQX6
import Derived.Test.YteefjmdallpihaaGreatDoorXmC
import Derived.Lib.OthersKept
import Derived.Lib.IndexAny
import Derived.Laws.RangeString
import Derived.Deep.LoopGhost
namespace Go.Proofs.YteefjmdallpihaaGreatDoor
open Go.RowKit Reply Go.Shelf

theorem elemX_all (FO : FoldX) (NU : NumX) (IX : IdxX) (RU : RuneX) : ∀ f, ElemC f := fun f => by
  induction f using Nat.strongRecOn with
  | ind f ih =>
    cases f with
    | zero =>
      intro w0 w C p s A c h hr hf
      omega
    | succ f => exact elemX_step NU IX RU f (contX_step FO NU IX RU f (fun g hg => ih g (by omega)))
theorem validX_any (w : World) (E : EnvX w) (l : Reply.B) (hl : l.length ≤ 4194304) :
    Calls Tryz.prog 33 #[.string (S l)] w fun e w' => e = .returned (.bool (Lib.validD l)) ∧ Below w.heap.size w w' := by
  refine (Any.utf8_ValidString Tryz.laysValid (S l) w (by rw [S_size]; omega) E.tabs).mono ?_
  rintro e w' ⟨rfl, hb⟩
  exact ⟨rfl, hb⟩
set_option maxRecDepth 100000 in
set_option maxHeartbeats 3200000 in
theorem lettersX_any (w : World) (E : EnvX w) (l : Reply.B) (hl : l.length ≤ 4194304) :
    Calls Tryz.prog 25 #[.string (S l)] w fun e w' => e = .returned (.bool (Xml.letters l)) ∧ Below w.heap.size w w' := by
  have VA := Lib.hid (validX_any w E l hl)
  have LS := S_size l
  obtain ⟨R, hR⟩ : ∃ x, x = Xml.letters l := ⟨_, rfl⟩
  rw [← hR]
  have HR := Lib.hid hR
  clear E hR
  go_enter Tryz.func25, Tryz.ntmps25
  go_wp2_with fail
  refine VA.out.mono ?_
  rintro e w1 ⟨rfl, hb1⟩
  have B1 := Lib.hid hb1
  clear VA hb1
  cases hv : Lib.validD l with
  | false =>
    have F : Hid (R = false) := HR.out.trans (Xml.validD_letters _ l (Nat.le_refl _) hv)
    clear hv
    go_wp2_with fail
    go_ret
    exact ⟨by rw [F.out]; rfl, B1.out⟩
  | true =>
    have HV := Lib.hid hv
    clear hv
    go_wp2_with fail
    go_loopg [4] (S l).size (fun g _ wx => ∃ i : Nat, i + g = (S l).size ∧ Hid (Below w1.heap.size w1 wx) ∧ Hid (wx.heap[w1.heap.size]? = some (.stringIter (S l) i)) ∧ Hid (Lib.validD (l.drop i) = true ∧ R = Xml.letters (l.drop i)))
    case atStart => exact ⟨0, by omega, (Below.refl _ _).alloc (Nat.le_refl _) _, World.iter_heap w1 (S l) 0, ⟨by rw [List.drop_zero]; exact HV.out, by rw [List.drop_zero]; exact HR.out⟩⟩
    case round =>
      obtain ⟨i, hig, HB, HI, HU⟩ := hrel
      cases gk with
      | zero =>
        obtain rfl : i = (S l).size := by omega
        have hnx := fun ty => Lib.run_next_end_at (P := Tryz.prog) wr w1.heap.size (S l) (S l).size ty HI.out (by omega)
        have F : Hid (R = true) := by
          have := HU.out.2
          rw [LS, List.drop_length] at this
          exact this
        go_wp2
        go_ret
        exact ⟨by rw [F.out]; rfl, B1.out.trans (HB.out.mono B1.out.size)⟩
      | succ g =>
        have hi : i < (S l).size := by omega
        have hil : i < l.length := by rw [← LS]; exact hi
        have hne : l.drop i ≠ [] := fun h => by
          have := congrArg List.length h
          rw [List.length_drop] at this
          simp at this
          omega
        have hnx := fun ty => Lib.run_next_any_at (P := Tryz.prog) wr w1.heap.size (S l) i ty HI.out hi
        have hd : Utf8.decode (S l) i = Xml.stepD (l.drop i) := Xml.decode_step l i
        obtain ⟨hnb, hv2⟩ := Xml.validD_drop hne HU.out.1
        have hl2 := HU.out.2.trans (Xml.letters_step hne)
        rw [if_neg hnb] at hl2
        have hle := Xml.stepD_le (l.drop i)
        have hpos := Xml.stepD_pos (l := l.drop i)
        have hw := Xml.stepD_len hne
        rw [List.length_drop] at hw
        rw [hd] at hnx
        rw [List.drop_drop] at hv2 hl2
        obtain ⟨r, n, hD⟩ : ∃ r n, Xml.stepD (l.drop i) = (r, n) := ⟨_, _, rfl⟩
        simp only [hD] at hnx hv2 hl2 hle hpos hw
        clear hD hd hnb hne
        obtain ⟨W2, hW2⟩ : ∃ W2, W2 = wr.iterAt w1.heap.size (S l) (i + n) := ⟨_, rfl⟩
        have B2 : Hid (Below w1.heap.size w1 W2) := by rw [hW2]; exact Lib.below_iterAt HB.out (Nat.le_refl _) (S l) _
        have I2 : Hid (W2.heap[w1.heap.size]? = some (.stringIter (S l) (i + n))) := by rw [hW2]; exact Lib.iterAt_heap _ _ _ _ _ HI.out
        rw [← hW2] at hnx
        clear hW2 HI HU
        have LE := Lib.hid (fun u => letter_any u r hle)
        have V2 := Lib.hid hv2
        have L2 := Lib.hid hl2
        clear hv2 hl2
        go_wp2_with fail
        refine (LE.out _).mono ?_
        rintro e w3 ⟨rfl, rfl⟩
        clear LE
        cases hq : Xml.letter r with
        | false =>
          have F : Hid (R = false) := by
            have := L2.out
            rw [hq, Bool.false_and] at this
            exact this
          clear hq
          go_wp2_with fail
          go_ret
          exact ⟨by rw [F.out]; rfl, B1.out.trans (B2.out.mono B1.out.size)⟩
        | true =>
          have F : Hid (R = Xml.letters (l.drop (i + n))) := by
            have := L2.out
            rw [hq, Bool.true_and] at this
            exact this
          clear hq
          go_wp2_with fail
          go_roundg ((S l).size - (i + n))
          case measure => omega
          case rel => exact ⟨i + n, by omega, B2, I2, ⟨V2.out, F.out⟩⟩
end Go.Proofs.YteefjmdallpihaaGreatDoor
