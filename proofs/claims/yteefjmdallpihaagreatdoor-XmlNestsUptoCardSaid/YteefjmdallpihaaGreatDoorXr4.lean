/-
  xml: the reader's small steps: take, skip, need, name.
-/
import Derived.Test.YteefjmdallpihaaGreatDoorXr3
namespace Go.Proofs.YteefjmdallpihaaGreatDoor
open Go.RowKit Reply

theorem cutpreX_any (w : World) (l p : Reply.B) :
    Calls Tryz.prog 54 #[.string (S l), .string (S p)] w fun e w' => e = .returned (.tuple #[.string (S (Lib.trimPrefix l p)), .bool (Lib.hasPrefix l p)]) ∧ w = w' :=
  (Tryz.strings_CutPrefix (S l) (S p) w).mono fun _ _ h => ⟨h.1, h.2.symm⟩
section
variable {w0 w : World} {C p : Nat} {s : Xml.St} {A : Option Addr} {c : Nat}
set_option maxRecDepth 100000 in
set_option maxHeartbeats 4000000 in
theorem takeX_any (h : RdX w0 C w p s A c) (n : Nat) (hn : n ≤ s.rest.length) :
    Calls Tryz.prog 81 #[.pointer (some ⟨p, 0, none⟩), .int .i64 (n : Int)] w fun e w' => e = .returned (.string (S (Xml.take s n).1)) ∧ RdX w0 C w' p (Xml.take s n).2 A c ∧ FrX C p w w' := by
  obtain ⟨l, hl⟩ : ∃ x, x = s.rest := ⟨_, rfl⟩
  have c0 : w.cell? ⟨p, 0, none⟩ = some (.string (S s.rest)) := h.blk.cell 0
  have y0 : w.frozen? ⟨p, 0, none⟩ = false := h.blk.frozen 0
  have N := Lib.hid (h.rest_ (s.rest.drop n))
  have F : Hid (FrX C p w (w.setCell ⟨p, 0, none⟩ (.string (S (s.rest.drop n))))) := (FrX.refl _ _ _).set_ 0 _
  have T : Hid ((Xml.take s n).1 = s.rest.take n ∧ (Xml.take s n).2 = { s with rest := s.rest.drop n }) := ⟨rfl, rfl⟩
  rw [T.out.1, T.out.2]
  obtain ⟨t, ht⟩ : ∃ x, x = S s.rest := ⟨_, rfl⟩
  have tz : t.size = s.rest.length := by rw [ht, S_size]
  have e1 : t.extract 0 n = S (s.rest.take n) := by rw [ht, S_extract]; simp
  have e2 : t.extract n t.size = S (s.rest.drop n) := by rw [tz, ht, S_extract, List.take_of_length_le (by rw [List.length_drop]; exact Nat.le_refl _)]
  have n1 : (n : Int) ≤ (t.size : Int) := by omega
  have n2 : n ≤ t.size := by omega
  rw [← ht] at c0
  clear h hl ht T tz hn
  go_enter Tryz.func81, Tryz.ntmps81
  go_wp2
  go_ret
  exact ⟨rfl, N.out, F.out⟩
set_option maxRecDepth 100000 in
set_option maxHeartbeats 4000000 in
theorem skipX_any (h : RdX w0 C w p s A c) (t : Reply.B) :
    Calls Tryz.prog 35 #[.pointer (some ⟨p, 0, none⟩), .string (S t)] w fun e w' => e = .returned (.bool (Xml.skip s t).1) ∧ RdX w0 C w' p (Xml.skip s t).2 A c ∧ FrX C p w w' := by
  have c0 : w.cell? ⟨p, 0, none⟩ = some (.string (S s.rest)) := h.blk.cell 0
  have y0 : w.frozen? ⟨p, 0, none⟩ = false := h.blk.frozen 0
  have N := Lib.hid (h.rest_ (Lib.trimPrefix s.rest t))
  have F : Hid (FrX C p w (w.setCell ⟨p, 0, none⟩ (.string (S (Lib.trimPrefix s.rest t))))) := (FrX.refl _ _ _).set_ 0 _
  have T : Hid ((Xml.skip s t).1 = Lib.hasPrefix s.rest t ∧ (Xml.skip s t).2 = { s with rest := Lib.trimPrefix s.rest t }) := ⟨rfl, rfl⟩
  have CP := Lib.hid (fun u => cutpreX_any u s.rest t)
  rw [T.out.1, T.out.2]
  clear h T
  go_enter Tryz.func35, Tryz.ntmps35
  go_wp2_with fail
  refine (CP.out _).mono ?_
  rintro e w' ⟨rfl, rfl⟩
  clear CP
  go_wp2_with fail
  go_ret
  exact ⟨rfl, N.out, F.out⟩
set_option maxRecDepth 100000 in
set_option maxHeartbeats 4000000 in
theorem needX_any (h : RdX w0 C w p s A c) (t : Reply.B) :
    Calls Tryz.prog 40 #[.pointer (some ⟨p, 0, none⟩), .string (S t)] w fun e w' => FrX C p w w' ∧ match Xml.need s t with
      | .bad n => e = .panicked [{ v := troubleX n, recovered := false }]
      | .ok _ s' => e = .returned (.tuple #[]) ∧ RdX w0 C w' p s' A c := by
  have SK := Lib.hid (skipX_any h t)
  cases hp : Lib.hasPrefix s.rest t with
  | true =>
    have E : Xml.need s t = .ok () (Xml.skip s t).2 := by unfold Xml.need; rw [hp]; rfl
    have E1 : (Xml.skip s t).1 = true := hp
    rw [E]
    rw [E1] at SK
    clear h E E1
    go_enter Tryz.func40, Tryz.ntmps40
    go_wp2_with fail
    refine SK.out.mono ?_
    rintro e w1 ⟨rfl, r1, f1⟩
    have R1 := Lib.hid r1
    have F1 := Lib.hid f1
    clear r1 f1 SK
    go_wp2_with fail
    refine (demand_ok _ _).mono ?_
    rintro e w2 ⟨rfl, rfl⟩
    go_wp2_with fail
    go_end0
    exact ⟨F1.out, rfl, R1.out⟩
  | false =>
    have E : Xml.need s t = .bad 30 := by unfold Xml.need; rw [hp]; rfl
    have E1 : (Xml.skip s t).1 = false := hp
    rw [E]
    rw [E1] at SK
    clear h E E1
    go_enter Tryz.func40, Tryz.ntmps40
    go_wp2_with fail
    refine SK.out.mono ?_
    rintro e w1 ⟨rfl, r1, f1⟩
    have F1 := Lib.hid f1
    clear r1 f1 SK
    go_wp2_with fail
    refine (demand_bad _ _).mono ?_
    rintro e w2 ⟨rfl, rfl⟩
    exact ⟨rfl, F1.out, rfl⟩
end
end Go.Proofs.YteefjmdallpihaaGreatDoor
