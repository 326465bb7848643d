/-
  pager: Make and Open where they are refused.
-/
import Derived.Test.YtkajneeihhobhaaGreatMPgN
namespace Go.Proofs.YtkajneeihhobhaaGreat
open Go.RowKit Go.Maps Wal Pgr

theorem pcheck_nil (w : World) (z : Int) : Calls Tryz.prog 36 #[.pointer none, .int .i64 z] w fun e w' => e = .returned (.int .i64 2) ∧ w = w' := by
  go_enter Tryz.func36, Tryz.ntmps36
  go_wp2_with fail
  go_ret
  exact ⟨rfl, rfl⟩
theorem pcheck_bad (w : World) (d : Nat) (F : List Nat) (m : Dsk.DM) (z : Int) (h : DiskAt w d F m) (hz : z < 2 ∨ (m.dur.length : Int) ≤ z) :
    Calls Tryz.prog 36 #[.pointer (some ⟨d, 0, none⟩), .int .i64 z] w fun e w' => e = .returned (.int .i64 1) ∧ w = w' := by
  have S := Lib.hid (size_any w d F m h)
  clear h
  by_cases h2 : z < 2
  · have hd : decide (z < 2) = true := decide_eq_true h2
    clear hz
    go_enter Tryz.func36, Tryz.ntmps36
    go_wp2_with fail
    go_ret
    exact ⟨rfl, rfl⟩
  · have h3 : (m.dur.length : Int) ≤ z := by omega
    have hd : decide (z < 2) = false := decide_eq_false h2
    have h4 : 2 ≤ z := by omega
    clear hz h2
    go_enter Tryz.func36, Tryz.ntmps36
    go_wp2_with fail
    refine S.out.mono ?_
    rintro e w' ⟨rfl, rfl⟩
    go_wp2_with fail
    go_ret
    exact ⟨rfl, rfl⟩
theorem popen_bad (w : World) (d : Nat) (F : List Nat) (m : Dsk.DM) (z : Int) (h : DiskAt w d F m) (hz : z < 2 ∨ (m.dur.length : Int) ≤ z) :
    Calls Tryz.prog 22 #[.pointer (some ⟨d, 0, none⟩), .int .i64 z] w fun e w' => e = .returned (.tuple #[.pointer none, .int .i64 1]) ∧ w = w' := by
  have C := Lib.hid (pcheck_bad w d F m z h hz)
  clear h hz
  go_enter Tryz.func22, Tryz.ntmps22
  go_wp2_with fail
  refine C.out.mono ?_
  rintro e w' ⟨rfl, rfl⟩
  go_wp2_with fail
  go_ret2
  exact ⟨rfl, rfl⟩
theorem pmake_bad (w : World) (d : Nat) (F : List Nat) (m : Dsk.DM) (z : Int) (h : DiskAt w d F m) (hz : z < 2 ∨ (m.dur.length : Int) ≤ z) :
    Calls Tryz.prog 12 #[.pointer (some ⟨d, 0, none⟩), .int .i64 z] w fun e w' => e = .returned (.tuple #[.pointer none, .int .i64 1]) ∧ w = w' := by
  have C := Lib.hid (pcheck_bad w d F m z h hz)
  clear h hz
  go_enter Tryz.func12, Tryz.ntmps12
  go_wp2_with fail
  refine C.out.mono ?_
  rintro e w' ⟨rfl, rfl⟩
  go_wp2_with fail
  go_ret2
  exact ⟨rfl, rfl⟩
theorem pmake_nil (w : World) (z : Int) :
    Calls Tryz.prog 12 #[.pointer none, .int .i64 z] w fun e w' => e = .returned (.tuple #[.pointer none, .int .i64 2]) ∧ w = w' := by
  have C := Lib.hid (pcheck_nil w z)
  go_enter Tryz.func12, Tryz.ntmps12
  go_wp2_with fail
  refine C.out.mono ?_
  rintro e w' ⟨rfl, rfl⟩
  go_wp2_with fail
  go_ret2
  exact ⟨rfl, rfl⟩
theorem popen_none (w : World) (d : Nat) (F : List Nat) (m : Dsk.DM) (log : Nat) (z : Int) (h : DiskAt w d F m) (h2 : 2 ≤ log) (hl : log < m.dur.length)
    (hz : (z = 10 ∧ m.dead = true) ∨ (z = 11 ∧ m.dead = false ∧ ∀ a b c, (sec (m.seen.getD 0 [])).take 56 ≠ told 0 (log - 1) a b c)) :
    Calls Tryz.prog 22 #[.pointer (some ⟨d, 0, none⟩), .int .i64 (log : Int)] w fun e w' => e = .returned (.tuple #[.pointer none, .int .i64 z]) ∧ Turned w d F w' m := by
  have C := Lib.hid (pcheck_any w d F m log h h2 hl)
  have O := Lib.hid (open_none w d F m 0 log z h (by unfold checkErr; rw [if_neg (by omega)]) hz)
  have hz10 : z = 10 ∨ z = 11 := by rcases hz with ⟨h, _⟩ | ⟨h, _⟩ <;> simp [h]
  clear h h2 hl hz
  rcases hz10 with rfl | rfl
  all_goals
    go_enter Tryz.func22, Tryz.ntmps22
    go_wp2_with fail
    refine C.out.mono ?_
    rintro e w' ⟨rfl, rfl⟩
    go_wp2_with fail
    refine O.out.mono ?_
    rintro e w' ⟨rfl, ht⟩
    have HT := Lib.hid ht
    clear ht O C
    go_wp2_with fail
    go_ret2
    exact ⟨rfl, HT.out⟩
theorem erase_dead (w : World) (d : Nat) (F : List Nat) (m : Dsk.DM) (h : DiskAt w d F m) (hd : m.dead = true) (hw : m.wait.length ≤ 5700000000000) :
    Calls Tryz.prog 37 #[.pointer (some ⟨d, 0, none⟩), .int .i64 0, .int .i64 1] w fun e w' => e = .returned (.int .i64 10) ∧ Turned w d F w' m := by
  have WA := write_any w d F m 0 none 0 0 [] h (bts_nil w) (by omega) (fun h0 => by omega) (by omega)
  have e1 : m.writeErr 0 0 = 10 := by unfold Dsk.DM.writeErr; rw [if_pos hd]
  have e2 : m.write 0 [] = m := by unfold Dsk.DM.write; rw [if_pos hd]
  rw [e1, e2] at WA
  have WA := Lib.hid WA
  clear h hd hw e1 e2
  go_enter Tryz.func37, Tryz.ntmps37
  go_wp2_with fail
  refine wp_loop_rounds 1 ?_
  rw [rounds_succ]
  go_wp2_with fail
  refine WA.out.mono ?_
  rintro e w' ⟨rfl, ht⟩
  have HT := Lib.hid ht
  clear ht WA
  go_wp2_with fail
  go_ret
  exact ⟨rfl, HT.out⟩
theorem pmake_dead (w : World) (d : Nat) (F : List Nat) (m : Dsk.DM) (log : Nat) (h : DiskAt w d F m) (h2 : 2 ≤ log) (hl : log < m.dur.length) (hd : m.dead = true) (hw : m.wait.length ≤ 5700000000000) :
    Calls Tryz.prog 12 #[.pointer (some ⟨d, 0, none⟩), .int .i64 (log : Int)] w fun e w' => e = .returned (.tuple #[.pointer none, .int .i64 10]) ∧ Turned w d F w' m := by
  have C := Lib.hid (pcheck_any w d F m log h h2 hl)
  have E := Lib.hid (erase_dead w d F m h hd hw)
  clear h h2 hl hd hw
  go_enter Tryz.func12, Tryz.ntmps12
  go_wp2_with fail
  refine C.out.mono ?_
  rintro e w' ⟨rfl, rfl⟩
  go_wp2_with fail
  refine E.out.mono ?_
  rintro e w' ⟨rfl, ht⟩
  have HT := Lib.hid ht
  clear ht E C
  go_wp2_with fail
  go_ret2
  exact ⟨rfl, HT.out⟩
end Go.Proofs.YtkajneeihhobhaaGreat
