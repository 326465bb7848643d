/-
  xml: split, spaceOf.
-/
import Derived.Test.YteefjmdallpihaaGreatDoorXr8
namespace Go.Proofs.YteefjmdallpihaaGreatDoor
open Go.RowKit Reply Go.Shelf

set_option maxRecDepth 100000 in
set_option maxHeartbeats 4000000 in
theorem splitX_any (w : World) (E : EnvX w) (l : Reply.B) (hl : l.length ≤ 65536) :
    Calls Tryz.prog 42 #[.string (S l)] w fun e w' => e = .returned (.tuple #[.string (S (Xml.split l).1), .string (S (Xml.split l).2)]) ∧ Below w.heap.size w w' := by
  have CU : Hid (Calls Tryz.prog 56 #[.string (S l), .string ⟨#[58]⟩] w fun e w' => e = .returned (.tuple #[.string (S (Lib.cut l [58]).1), .string (S (Lib.cut l [58]).2.1), .bool (Lib.cut l [58]).2.2]) ∧ Below w.heap.size w w') := cutX_any w E l [58] (by omega)
  cases hp : (Lib.cut l [58]).2.2 with
  | true =>
    have E2 : Xml.split l = ((Lib.cut l [58]).1, (Lib.cut l [58]).2.1) := by unfold Xml.split; rw [if_pos hp]
    rw [E2]
    rw [hp] at CU
    clear E E2 hp
    go_enter Tryz.func42, Tryz.ntmps42
    go_wp2_with fail
    refine CU.out.mono ?_
    rintro e w1 ⟨rfl, hb⟩
    have B1 := Lib.hid hb
    clear hb CU
    go_wp2_with fail
    go_ret2
    exact ⟨rfl, B1.out⟩
  | false =>
    have E2 : Xml.split l = ([], l) := by unfold Xml.split; rw [if_neg (by rw [hp]; simp)]
    rw [E2]
    rw [hp] at CU
    clear E E2 hp
    go_enter Tryz.func42, Tryz.ntmps42
    go_wp2_with fail
    refine CU.out.mono ?_
    rintro e w1 ⟨rfl, hb⟩
    have B1 := Lib.hid hb
    clear hb CU
    go_wp2_with fail
    go_ret2
    exact ⟨rfl, B1.out⟩
theorem spaceOf_hit {l : List (Reply.B × Reply.B)} {q : Reply.B} {k : Nat} (hk : k < l.length) (h : l[k].1 = q) (ha : ∀ j (hj : j < l.length), k < j → l[j].1 ≠ q) : Xml.spaceOf l q = some l[k].2 := by
  have e : l = l.take k ++ l[k] :: l.drop (k + 1) := by rw [← List.drop_eq_getElem_cons hk, List.take_append_drop]
  have n : ((l.drop (k + 1)).reverse.find? fun x => decide (x.1 = q)) = none := by
    rw [List.find?_eq_none]
    intro x hx
    obtain ⟨j, hj, rfl⟩ := List.mem_iff_getElem.1 (List.mem_reverse.1 hx)
    rw [List.getElem_drop]
    rw [List.length_drop] at hj
    simpa using ha (k + 1 + j) (by omega) (by omega)
  unfold Xml.spaceOf
  conv => lhs; rw [e]
  rw [List.reverse_append, List.reverse_cons, List.append_assoc, List.find?_append, n]
  simp [h]
theorem spaceOf_none {l : List (Reply.B × Reply.B)} {q : Reply.B} (ha : ∀ j (hj : j < l.length), l[j].1 ≠ q) : Xml.spaceOf l q = none := by
  have n : (l.reverse.find? fun x => decide (x.1 = q)) = none := by
    rw [List.find?_eq_none]
    intro x hx
    obtain ⟨j, hj, rfl⟩ := List.mem_iff_getElem.1 (List.mem_reverse.1 hx)
    simpa using ha j hj
  unfold Xml.spaceOf
  rw [n]
  rfl
/-- What a call ends with that gives up where there is nothing to tell. -/
def EndsO (r : Option Reply.B) (e : Ending) : Prop := match r with
  | none => e = .panicked [{ v := troubleX 30, recovered := false }]
  | some v => e = .returned (.string (S v))
theorem EndsO.no {r : Option Reply.B} (h : r = none) : EndsO r (.panicked [{ v := troubleX 30, recovered := false }]) := by rw [h]; rfl
theorem EndsO.yes {r : Option Reply.B} {v : Reply.B} (h : r = some v) {t : ByteArray} (e : t = S v) : EndsO r (.returned (.string t)) := by rw [h, e]; rfl
section
variable {w0 w : World} {C p : Nat} {s : Xml.St} {A : Option Addr} {c : Nat}
set_option maxRecDepth 100000 in
set_option maxHeartbeats 8000000 in
theorem spaceX_any (h : RdX w0 C w p s A c) (hn : s.spaces.length ≤ 1048576) (q : Reply.B) :
    Calls Tryz.prog 45 #[.pointer (some ⟨p, 0, none⟩), .string (S q)] w fun e w' => w = w' ∧ EndsO (Xml.spaceOf s.spaces q) e := by
  obtain ⟨R, hR⟩ : ∃ x, x = Xml.spaceOf s.spaces q := ⟨_, rfl⟩
  have c1 : w.cell? ⟨p, 1, none⟩ = some (.slice A s.spaces.length c) := h.blk.cell 1
  have HA : Hid (HAtS w A s.spaces) := by
    obtain ⟨A', c9, e, _, hA⟩ := h.row.any
    show HAtS _ _ _
    injection e with e1 e2 e3
    rw [e1]
    exact hA
  obtain ⟨l, hl⟩ : ∃ x, x = s.spaces := ⟨_, rfl⟩
  rw [← hl] at c1 HA hn hR
  obtain ⟨n, hnn⟩ : ∃ n, n = l.length := ⟨_, rfl⟩
  rw [← hnn] at c1 hn
  have HN := Lib.hid hnn
  have HR := Lib.hid hR
  obtain ⟨qs, hqs⟩ : ∃ x, x = S q := ⟨_, rfl⟩
  have HQ := Lib.hid hqs
  rw [← hl, ← hR, ← hqs]
  clear h hl hR hnn hqs
  go_enter Tryz.func45, Tryz.ntmps45
  go_wp2_with fail
  go_loop [5] (fun v => ∃ k : Nat, k ≤ n ∧ v = .int .i64 ((k : Int) - 1) ∧ Hid (∀ j (hj : j < l.length), k ≤ j → l[j].1 ≠ q)) (fun v => (intOf v + 1).toNat)
  case atStart => exact ⟨n, Nat.le_refl _, by go_num, fun j hj hk => by have := HN.out; omega⟩
  case round =>
    obtain ⟨k, hk, rfl, HP⟩ := hrel
    rcases k with _ | k
    · have F : Hid (R = none) := HR.out.trans (spaceOf_none (fun j hj => HP.out j hj (Nat.zero_le _)))
      have z : ¬ (0 : Int) ≤ ((0 : Nat) : Int) - 1 := by omega
      go_wp2_with fail
      refine (demand_bad _ _).mono ?_
      rintro e w2 ⟨rfl, rfl⟩
      exact ⟨rfl, rfl, EndsO.no F.out⟩
    · have hkl : k < l.length := by rw [← HN.out]; omega
      have ek : (((k + 1 : Nat) : Int) - 1) = (k : Int) := by omega
      rw [ek]
      obtain ⟨g, off, rfl, x0, x1⟩ := HA.out.at_ hkl
      have kz : (k : Int) < (n : Int) := by omega
      have k0 : (0 : Int) ≤ (k : Int) := by omega
      have fe : ((S l[k].1).toList == qs.toList) = decide (l[k].1 = q) := by rw [HQ.out]; exact S_eq _ _
      by_cases he : l[k].1 = q
      · have F : Hid (R = some l[k].2) := HR.out.trans (spaceOf_hit hkl he (fun j hj hlt => HP.out j hj (by omega)))
        rw [decide_eq_true he] at fe
        have fn : ((S l[k].1).toList != qs.toList) = false := by rw [bne, fe]; rfl
        generalize S l[k].1 = sa at *
        obtain ⟨sb, hsb⟩ : ∃ x, x = S l[k].2 := ⟨_, rfl⟩
        rw [← hsb] at x1
        have SB := Lib.hid hsb
        clear he hsb
        go_wp2_with fail
        refine (demand_ok _ _).mono ?_
        rintro e w2 ⟨rfl, rfl⟩
        go_wp2_with fail
        go_ret
        exact ⟨rfl, EndsO.yes F.out SB.out⟩
      · have HP2 : Hid (∀ j (hj : j < l.length), k ≤ j → l[j].1 ≠ q) := fun j hj hle => by
          by_cases e : j = k
          · subst e; exact he
          · exact HP.out j hj (by omega)
        rw [decide_eq_false he] at fe
        have fn : ((S l[k].1).toList != qs.toList) = true := by rw [bne, fe]; rfl
        generalize S l[k].1 = sa at *
        generalize S l[k].2 = sb at *
        clear he
        go_wp2_with fail
        go_round
        case rel => exact ⟨k, by omega, by go_num, HP2⟩
        case measure => simp [intOf]
end
end Go.Proofs.YteefjmdallpihaaGreatDoor
