/-
  docketlaw11: fixed.
-/
import Derived.Test.YtnodhbgkoedalaaGreatDoorQW16
import Derived.Laws.StructEq
namespace Go.Proofs.YtnodhbgkoedalaaGreatDoor
open Go.RowKit Reply

set_option maxRecDepth 100000 in
set_option maxHeartbeats 8000000 in
theorem fixed_any (CA : ClosesAll) (w : World) (E : Env w) :
    Calls Tryz.prog 8 #[] w fun e w' => e = .returned (.bool true) ∧ Below w.heap.size w w' := by
  have R1 : Hid (Calls Tryz.prog 9 #[.string ⟨#[71, 69, 84, 32, 47, 97, 32, 72, 84, 84, 80, 47, 49, 46, 49, 13, 10, 72, 111, 115, 116, 58, 32, 104, 13, 10, 13, 10, 120]⟩] w fun e w' => (∃ A c2, e = .returned (.tuple #[.agg #[.string ⟨#[71, 69, 84]⟩, .string ⟨#[47, 97]⟩, .slice A 1 c2, .string ⟨#[]⟩, .bool false], .int .i64 28, .int .i64 0]) ∧ HAt w' A [(Wire.nHost, [104])]) ∧ Below w.heap.size w w') := readE CA w E Wire.fixL (by decide) Wire.fix_reads
  have R2 : Hid (∀ u, Env u → Calls Tryz.prog 9 #[.string ⟨#[71, 69, 84, 32, 47, 97, 32, 72, 84, 84, 80, 47, 49, 46, 48, 13, 10]⟩] u fun e w' => (∃ A c2, e = .returned (.tuple #[.agg #[.string ⟨#[]⟩, .string ⟨#[]⟩, .slice A 0 c2, .string ⟨#[]⟩, .bool false], .int .i64 0, .int .i64 505])) ∧ Below u.heap.size u w') := fun u k => by
    refine (readE CA u k Wire.fixM (by decide) Wire.fix_reads2).mono ?_
    rintro e w' ⟨⟨A, c2, rfl, _⟩, hb⟩
    exact ⟨⟨A, c2, rfl⟩, hb⟩
  have HE := Lib.hid E
  clear E CA
  go_enter Tryz.func8, Tryz.ntmps8
  go_wp2_with fail
  refine R1.out.mono ?_
  rintro e w1 ⟨⟨A, c2, rfl, hA⟩, hb⟩
  have B1 := Lib.hid hb
  have HA := Lib.hid hA
  obtain ⟨W1, hW1⟩ : ∃ x, x = w1.alloc (.cells #[.string ⟨#[71, 69, 84]⟩, .string ⟨#[47, 97]⟩, .slice A 1 c2, .string ⟨#[]⟩, .bool false] 26) := ⟨_, rfl⟩
  have HW1 := Lib.hid hW1
  have A1 : Hid (Below w1.heap.size w1 W1) := by show Below _ _ _; rw [hW1]; exact (Below.refl _ _).alloc (Nat.le_refl _) _
  have H1 : Hid (Held W1 w1.heap.size 26 #[.string ⟨#[71, 69, 84]⟩, .string ⟨#[47, 97]⟩, .slice A 1 c2, .string ⟨#[]⟩, .bool false]) := by show Held _ _ _ _; rw [hW1]; exact Held.new _ _ _ rfl
  have B2 := Lib.hid (B1.out.trans (A1.out.mono B1.out.size))
  clear hb hA hW1 R1
  go_wp2_with fail
  rw [← HW1.out]
  refine (R2.out _ (HE.out.below B2.out)).mono ?_
  rintro e w2 ⟨⟨A9, c9, rfl⟩, hb⟩
  have B3 := Lib.hid (B2.out.trans (hb.mono B2.out.size))
  have H2 := Lib.hid (H1.out.below hb H1.out.lt)
  have h0 := H2.out.cell 0
  have h1 := H2.out.cell 1
  have h2 := H2.out.cell 2
  have h3 := H2.out.cell 3
  have h4 := H2.out.cell 4
  obtain ⟨g, off, rfl, a0, a1⟩ := ((HA.out.below A1.out).below hb).at_ (k := 0) (by simp)
  have a0' : w2.cell? ⟨g, off, none⟩ = some (.string ⟨#[104, 111, 115, 116]⟩) := a0
  have a1' : w2.cell? ⟨g, off + 1, none⟩ = some (.string ⟨#[104]⟩) := a1
  have G1 : w1.heap.size < w2.heap.size := H2.out.lt
  have G2 : g < w2.heap.size := block_lt a0'
  have BF : Hid (∀ o : Obj, Below w.heap.size w (w2.alloc o)) := fun o => B3.out.alloc B3.out.size o
  clear hb a0 a1 R2
  go_wp2_with fail
  go_ret
  exact ⟨rfl, BF.out _⟩
end Go.Proofs.YtnodhbgkoedalaaGreatDoor
