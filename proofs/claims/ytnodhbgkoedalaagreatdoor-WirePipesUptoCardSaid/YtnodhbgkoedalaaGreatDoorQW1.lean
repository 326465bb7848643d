/-
  wire: a line without its end. · wire: targets and versions. · wire: how long a line is, a piece off the front (of a string), of how many bytes the next piece is.
-/
import Derived.Test.YtnodhbgkoedalaaGreatDoorQW0
import Derived.Lib.IndexAny
namespace Go.Proofs.YtnodhbgkoedalaaGreatDoor
open Go.RowKit Reply

theorem cutsuf_any (w : World) (l p : Reply.B) (hl : l.length ≤ 4294967296) :
    Calls Tryz.prog 45 #[.string (S l), .string (S p)] w fun e w' => e = .returned (.tuple #[.string (S (Lib.trimSuffix l p)), .bool (Lib.hasSuffix l p)]) ∧ w = w' :=
  (Tryz.strings_CutSuffix (S l) (S p) w (by rw [S_size]; omega)).mono fun _ _ h => ⟨h.1, h.2.symm⟩
theorem contains_any (w : World) (l : Reply.B) (c : UInt8) :
    Calls Tryz.prog 46 #[.string (S l), .string ⟨#[c]⟩] w fun e w' => e = .returned (.bool (l.contains c)) ∧ w = w' := by
  refine (Tryz.strings_Contains_one (S l) c w).mono ?_
  rintro e w' ⟨rfl, rfl⟩
  refine ⟨ret_bool ?_, rfl⟩
  rw [Bool.eq_iff_iff, decide_eq_true_eq]
  have := Lib.contains_iff_indexByte l c
  rw [S_list, this]
  simp
theorem cutsuf_len (l p : Reply.B) : (Lib.trimSuffix l p).length ≤ l.length := by
  unfold Lib.trimSuffix
  split
  · simp only [List.length_take]; omega
  · exact Nat.le_refl _
theorem ret_si {a b : ByteArray} {x y : Int} (h : a = b) (h2 : x = y) : Ending.returned (.tuple #[.string a, .int .i64 x]) = .returned (.tuple #[.string b, .int .i64 y]) := by rw [h, h2]
set_option maxRecDepth 100000 in
set_option maxHeartbeats 4000000 in
theorem bare_any (w : World) (l : Reply.B) (t : Int) (hl : l.length ≤ 1073741824) :
    Calls Tryz.prog 33 #[.string (S l), .int .i64 t] w fun e w' => e = .returned (.tuple #[.string (S (Wire.bare l t).1), .int .i64 (Wire.bare l t).2]) ∧ w = w' := by
  have C1 := Lib.hid (fun u => cutsuf_any u l [10] (by omega))
  obtain ⟨m, hm⟩ : ∃ x, x = Lib.trimSuffix l [10] := ⟨_, rfl⟩
  have mz : m.length ≤ l.length := by rw [hm]; exact cutsuf_len _ _
  have C2 := Lib.hid (fun u => cutsuf_any u m [13] (by omega))
  obtain ⟨n, hn⟩ : ∃ x, x = Lib.trimSuffix m [13] := ⟨_, rfl⟩
  have C3 := Lib.hid (fun u => contains_any u n 13)
  rw [← hm] at C1
  rw [← hn] at C2
  have E : Hid (Wire.bare l t = if Lib.hasSuffix l [10] then (if Lib.hasSuffix m [13] && !(n.contains 13) then (n, 0) else ([], 400)) else ([], t)) := by show _ = _; unfold Wire.bare; rw [← hm, ← hn]
  obtain ⟨a, ha⟩ : ∃ x, x = Lib.hasSuffix l [10] := ⟨_, rfl⟩
  obtain ⟨b, hb⟩ : ∃ x, x = Lib.hasSuffix m [13] := ⟨_, rfl⟩
  obtain ⟨c, hc⟩ : ∃ x, x = n.contains 13 := ⟨_, rfl⟩
  rw [← ha] at C1 E
  rw [← hb] at C2 E
  rw [← hc] at C3 E
  obtain ⟨R, hR⟩ : ∃ x, x = Wire.bare l t := ⟨_, rfl⟩
  rw [← hR] at E ⊢
  clear hm hn ha hb hc hR mz hl
  cases a
  · have E1 : Hid (R = ([], t)) := E.out
    clear E C2 C3
    go_enter Tryz.func33, Tryz.ntmps33
    go_wp2_with fail
    refine (C1.out _).mono ?_
    rintro e w' ⟨rfl, rfl⟩
    clear C1
    go_wp2_with fail
    go_ret2
    exact ⟨by rw [E1.out]; rfl, rfl⟩
  · cases b
    · have E1 : Hid (R = ([], 400)) := E.out
      clear E C3
      go_enter Tryz.func33, Tryz.ntmps33
      go_wp2_with fail
      refine (C1.out _).mono ?_
      rintro e w' ⟨rfl, rfl⟩
      clear C1
      go_wp2_with fail
      refine (C2.out _).mono ?_
      rintro e w' ⟨rfl, rfl⟩
      clear C2
      go_wp2_with fail
      go_ret2
      exact ⟨by rw [E1.out]; rfl, rfl⟩
    · cases c
      · have E1 : Hid (R = (n, 0)) := E.out
        clear E
        go_enter Tryz.func33, Tryz.ntmps33
        go_wp2_with fail
        refine (C1.out _).mono ?_
        rintro e w' ⟨rfl, rfl⟩
        clear C1
        go_wp2_with fail
        refine (C2.out _).mono ?_
        rintro e w' ⟨rfl, rfl⟩
        clear C2
        go_wp2_with fail
        refine (C3.out _).mono ?_
        rintro e w' ⟨rfl, rfl⟩
        clear C3
        go_wp2_with fail
        go_ret2
        exact ⟨by rw [E1.out]; rfl, rfl⟩
      · have E1 : Hid (R = ([], 400)) := E.out
        clear E
        go_enter Tryz.func33, Tryz.ntmps33
        go_wp2_with fail
        refine (C1.out _).mono ?_
        rintro e w' ⟨rfl, rfl⟩
        clear C1
        go_wp2_with fail
        refine (C2.out _).mono ?_
        rintro e w' ⟨rfl, rfl⟩
        clear C2
        go_wp2_with fail
        refine (C3.out _).mono ?_
        rintro e w' ⟨rfl, rfl⟩
        clear C3
        go_wp2_with fail
        go_ret2
        exact ⟨by rw [E1.out]; rfl, rfl⟩
end Go.Proofs.YtnodhbgkoedalaaGreatDoor

namespace Go.Proofs.YtnodhbgkoedalaaGreatDoor
open Go.RowKit Reply

def tgB (c : UInt8) : Bool := decide (33 ≤ c.toNat ∧ c.toNat ≤ 126)
theorem target_bad {l : Reply.B} {c : UInt8} (h : c ∈ l) (hc : tgB c = false) : Wire.isTarget l = false := by
  unfold Wire.isTarget
  have : l.all (fun c => decide (33 ≤ c.toNat ∧ c.toNat ≤ 126)) = false := by rw [List.all_eq_false]; exact ⟨c, h, by unfold tgB at hc; rw [hc]; exact Bool.false_ne_true⟩
  rw [this]
  rfl
theorem target_all {l : Reply.B} (h : ∀ c ∈ l, tgB c = true) : Wire.isTarget l = !decide (l = []) := by
  unfold Wire.isTarget
  have : l.all (fun c => decide (33 ≤ c.toNat ∧ c.toNat ≤ 126)) = true := by rw [List.all_eq_true]; exact h
  rw [this]
  cases l <;> simp
set_option maxRecDepth 100000 in
set_option maxHeartbeats 4000000 in
theorem target_any (w : World) (s : ByteArray) (hs : s.size ≤ 4294967296) :
    Calls Tryz.prog 37 #[.string s] w fun e w' => e = .returned (.bool (Wire.isTarget s.data.toList)) ∧ w = w' := by
  have HA : Hid (∀ k (hk : k < s.size), (s[k]'hk) = s.data.toList.getD k 0) := fun k hk => at_list s k hk
  have HL : Hid (s.data.toList.length = s.size) := size_list s
  have fe : s.toList.isEmpty = decide (s.data.toList = []) := by rw [← S_of s]; exact S_empty _
  go_enter Tryz.func37, Tryz.ntmps37
  go_wp2
  go_loop [3, 4, 7] (fun _ _ i => ∃ k : Nat, k ≤ s.size ∧ i = .int .i64 k ∧ Hid (∀ c ∈ s.data.toList.take k, tgB c = true)) (fun _ _ i => s.size - (intOf i).toNat)
  case atStart => exact ⟨0, by omega, rfl, by show ∀ c ∈ _, _; simp⟩
  case round =>
    obtain ⟨k, hk, rfl, hn⟩ := hrel
    by_cases hlt : k < s.size
    · obtain ⟨c, hc⟩ : ∃ c, c = (s[k]'hlt) := ⟨_, rfl⟩
      obtain ⟨x, hx⟩ : ∃ x, x = c.toNat := ⟨_, rfl⟩
      have hxe : ((s[k]'hlt).toNat : Int) = (x : Int) := by rw [hx, hc]
      have C := Lib.hid (hc.trans (HA.out k hlt))
      have X := Lib.hid hx
      have x8 : x < 256 := by rw [hx]; exact c.toNat_lt
      have MEM : Hid (c ∈ s.data.toList) := by show c ∈ _; rw [C.out]; exact getD_memU (by rw [HL.out]; exact hlt)
      have NX : tgB c = true → Hid (∀ d ∈ s.data.toList.take (k + 1), tgB d = true) := fun ht => by
        show ∀ d ∈ _, _
        rw [take_nextU (by rw [HL.out]; exact hlt), ← C.out]
        intro d hd
        rcases List.mem_append.1 hd with hd | hd
        · exact hn.out d hd
        · have : d = c := by simpa using hd
          rw [this, ht]
      have hlz : (k : Int) < (s.size : Int) := by omega
      clear hc hx
      by_cases h33 : x < 33
      · have F := Lib.hid (target_bad MEM.out (by unfold tgB; rw [← X.out]; exact decide_eq_false (by omega)))
        have f0 : decide ((x : Int) < 33) = true := decide_eq_true (by omega)
        clear NX
        go_wp2
        go_ret
        exact ⟨ret_bool F.out.symm, rfl⟩
      · have f0 : decide ((x : Int) < 33) = false := decide_eq_false (by omega)
        by_cases h126 : 126 < x
        · have F := Lib.hid (target_bad MEM.out (by unfold tgB; rw [← X.out]; exact decide_eq_false (by omega)))
          have f1 : decide ((126 : Int) < (x : Int)) = true := decide_eq_true (by omega)
          clear NX
          go_wp2
          go_ret
          exact ⟨ret_bool F.out.symm, rfl⟩
        · have f1 : decide ((126 : Int) < (x : Int)) = false := decide_eq_false (by omega)
          have N := NX (by unfold tgB; rw [← X.out]; exact decide_eq_true (by omega))
          clear NX
          go_wp2
          go_round
          case rel => exact ⟨k + 1, by omega, by go_num, N⟩
          case measure => simp [intOf]; omega
    · obtain rfl : k = s.size := by omega
      have F : Hid (Wire.isTarget s.data.toList = !decide (s.data.toList = [])) := target_all (by have := hn.out; rwa [← HL.out, List.take_length] at this)
      obtain ⟨z, hz⟩ : ∃ z, z = decide (s.data.toList = []) := ⟨_, rfl⟩
      rw [← hz] at fe F
      clear hz
      go_wp2
      go_ret
      exact ⟨ret_bool F.out.symm, rfl⟩
set_option maxRecDepth 100000 in
set_option maxHeartbeats 4000000 in
theorem digit_any (w : World) (c : UInt8) (x : Nat) (hx : x = c.toNat) :
    Calls Tryz.prog 50 #[.int .u8 (x : Int)] w fun e w' => e = .returned (.bool (Wire.isDig c)) ∧ w = w' := by
  have x8 : x < 256 := by rw [hx]; exact c.toNat_lt
  have E : Hid (Wire.isDig c = decide (48 ≤ x ∧ x ≤ 57)) := by show _ = _; unfold Wire.isDig; rw [hx]
  clear hx
  by_cases h48 : 48 ≤ x
  · have f0 : decide ((48 : Int) ≤ (x : Int)) = true := decide_eq_true (by omega)
    by_cases h57 : x ≤ 57
    · have f1 : decide ((x : Int) ≤ 57) = true := decide_eq_true (by omega)
      have F : Hid (Wire.isDig c = true) := by show _ = _; rw [E.out]; exact decide_eq_true ⟨h48, h57⟩
      clear E
      go_enter Tryz.func50, Tryz.ntmps50
      go_wp2
      go_ret
      exact ⟨ret_bool F.out.symm, rfl⟩
    · have f1 : decide ((x : Int) ≤ 57) = false := decide_eq_false (by omega)
      have F : Hid (Wire.isDig c = false) := by show _ = _; rw [E.out]; exact decide_eq_false (by omega)
      clear E
      go_enter Tryz.func50, Tryz.ntmps50
      go_wp2
      go_ret
      exact ⟨ret_bool F.out.symm, rfl⟩
  · have f0 : decide ((48 : Int) ≤ (x : Int)) = false := decide_eq_false (by omega)
    have F : Hid (Wire.isDig c = false) := by show _ = _; rw [E.out]; exact decide_eq_false (by omega)
    clear E
    go_enter Tryz.func50, Tryz.ntmps50
    go_wp2
    go_ret
    exact ⟨ret_bool F.out.symm, rfl⟩
/-- Three bytes, as they are. -/
def ver3 (d : Reply.B) : Bool := match d with
  | [a, b, c] => Wire.isDig a && b == 46 && Wire.isDig c
  | _ => false
theorem isVersion_is (t : Reply.B) : Wire.isVersion t = (Lib.hasPrefix t Wire.http && ver3 (Lib.trimPrefix t Wire.http)) := by
  unfold Wire.isVersion Lib.trimPrefix
  cases h : Lib.hasPrefix t Wire.http
  · rfl
  · simp only [Bool.true_and, if_true]
    rfl
theorem ver3_len {d : Reply.B} (h : d.length ≠ 3) : ver3 d = false := by
  rcases d with _ | ⟨a, _ | ⟨b, _ | ⟨c, _ | ⟨x, d⟩⟩⟩⟩
  · rfl
  · rfl
  · rfl
  · exact absurd rfl h
  · rfl
theorem ver3_is {d : Reply.B} (h : d.length = 3) : ver3 d = (Wire.isDig (d.getD 0 0) && d.getD 1 0 == 46 && Wire.isDig (d.getD 2 0)) := by
  rcases d with _ | ⟨a, _ | ⟨b, _ | ⟨c, _ | ⟨x, d⟩⟩⟩⟩
  · cases h
  · cases h
  · cases h
  · rfl
  · simp at h
set_option maxRecDepth 100000 in
set_option maxHeartbeats 4000000 in
theorem version_any (w : World) (t : Reply.B) :
    Calls Tryz.prog 38 #[.string (S t)] w fun e w' => e = .returned (.bool (Wire.isVersion t)) ∧ w = w' := by
  have CP : Hid (∀ u, Calls Tryz.prog 49 #[.string (S t), .string ⟨#[72, 84, 84, 80, 47]⟩] u fun e w' => e = .returned (.tuple #[.string (S (Lib.trimPrefix t Wire.http)), .bool (Lib.hasPrefix t Wire.http)]) ∧ u = w') := fun u => cutpre_any u t Wire.http
  have E := Lib.hid (isVersion_is t)
  obtain ⟨R, hR⟩ : ∃ x, x = Wire.isVersion t := ⟨_, rfl⟩
  rw [← hR] at E ⊢
  obtain ⟨d, hd⟩ : ∃ x, x = Lib.trimPrefix t Wire.http := ⟨_, rfl⟩
  obtain ⟨f, hf⟩ : ∃ x, x = Lib.hasPrefix t Wire.http := ⟨_, rfl⟩
  rw [← hd, ← hf] at CP E
  obtain ⟨s, hs⟩ : ∃ x, x = S d := ⟨_, rfl⟩
  rw [← hs] at CP
  have HS := Lib.hid hs
  have HL : Hid (s.size = d.length) := by show _ = _; rw [hs]; exact S_size d
  clear hd hf hR
  cases f
  · have F : Hid (R = false) := E.out
    clear E
    go_enter Tryz.func38, Tryz.ntmps38
    go_wp2_with fail
    refine (CP.out _).mono ?_
    rintro e w' ⟨rfl, rfl⟩
    clear CP
    go_wp2_with fail
    go_ret
    exact ⟨ret_bool F.out.symm, rfl⟩
  · by_cases h3 : d.length = 3
    · have z3 : s.size = 3 := by rw [HL.out]; exact h3
      have y3 : ((s.size : Int) == 3) = true := by rw [z3]; rfl
      have l0 : 0 < s.size := by omega
      have l1 : 1 < s.size := by omega
      have l2 : 2 < s.size := by omega
      obtain ⟨x0, hx0⟩ : ∃ x, x = (d.getD 0 0).toNat := ⟨_, rfl⟩
      obtain ⟨x1, hx1⟩ : ∃ x, x = (d.getD 1 0).toNat := ⟨_, rfl⟩
      obtain ⟨x2, hx2⟩ : ∃ x, x = (d.getD 2 0).toNat := ⟨_, rfl⟩
      have a0 : ((s[0]'l0).toNat : Int) = (x0 : Int) := by subst hs; rw [S_at, hx0]
      have a1 : ((s[1]'l1).toNat : Int) = (x1 : Int) := by subst hs; rw [S_at, hx1]
      have a2 : ((s[2]'l2).toNat : Int) = (x2 : Int) := by subst hs; rw [S_at, hx2]
      have D0 := Lib.hid (fun u => digit_any u _ x0 hx0)
      have D2 := Lib.hid (fun u => digit_any u _ x2 hx2)
      have E2 : Hid (R = (Wire.isDig (d.getD 0 0) && d.getD 1 0 == 46 && Wire.isDig (d.getD 2 0))) := by show _ = _; rw [E.out, ver3_is h3]; rfl
      obtain ⟨b0, hb0⟩ : ∃ x, x = Wire.isDig (d.getD 0 0) := ⟨_, rfl⟩
      obtain ⟨b2, hb2⟩ : ∃ x, x = Wire.isDig (d.getD 2 0) := ⟨_, rfl⟩
      have e1 : (d.getD 1 0 == 46) = ((x1 : Int) == 46) := by
        rw [Bool.eq_iff_iff, beq_iff_eq, beq_iff_eq, hx1, ← UInt8.toNat_inj]
        show _ = 46 ↔ _
        omega
      rw [e1] at E2
      rw [← hb0] at D0 E2
      rw [← hb2] at D2 E2
      obtain ⟨b1, hb1⟩ : ∃ x, x = ((x1 : Int) == 46) := ⟨_, rfl⟩
      have y1 := hb1.symm
      rw [← hb1] at E2
      clear hx0 hx1 hx2 hb0 hb2 hb1 e1 E h3 hs
      cases b0
      · have F : Hid (R = false) := E2.out
        clear E2
        go_enter Tryz.func38, Tryz.ntmps38
        go_wp2_with fail
        refine (CP.out _).mono ?_
        rintro e w' ⟨rfl, rfl⟩
        clear CP
        go_wp2_with fail
        refine (D0.out _).mono ?_
        rintro e w' ⟨rfl, rfl⟩
        clear D0
        go_wp2_with fail
        go_ret
        exact ⟨ret_bool F.out.symm, rfl⟩
      · cases b1
        · have F : Hid (R = false) := E2.out
          clear E2
          go_enter Tryz.func38, Tryz.ntmps38
          go_wp2_with fail
          refine (CP.out _).mono ?_
          rintro e w' ⟨rfl, rfl⟩
          clear CP
          go_wp2_with fail
          refine (D0.out _).mono ?_
          rintro e w' ⟨rfl, rfl⟩
          clear D0
          go_wp2_with fail
          go_ret
          exact ⟨ret_bool F.out.symm, rfl⟩
        · have F : Hid (R = b2) := E2.out
          clear E2
          go_enter Tryz.func38, Tryz.ntmps38
          go_wp2_with fail
          refine (CP.out _).mono ?_
          rintro e w' ⟨rfl, rfl⟩
          clear CP
          go_wp2_with fail
          refine (D0.out _).mono ?_
          rintro e w' ⟨rfl, rfl⟩
          clear D0
          go_wp2_with fail
          refine (D2.out _).mono ?_
          rintro e w' ⟨rfl, rfl⟩
          clear D2
          go_wp2_with fail
          go_ret
          exact ⟨ret_bool F.out.symm, rfl⟩
    · have y3 : ((s.size : Int) == 3) = false := by rw [beq_eq_false_iff_ne, HL.out]; omega
      have y3' : ¬ (s.size : Int) = 3 := by rw [HL.out]; omega
      have F : Hid (R = false) := by show _ = _; rw [E.out, ver3_len h3]; rfl
      clear E hs h3
      go_enter Tryz.func38, Tryz.ntmps38
      go_wp2_with fail
      refine (CP.out _).mono ?_
      rintro e w' ⟨rfl, rfl⟩
      clear CP
      go_wp2_with fail
      go_ret
      exact ⟨ret_bool F.out.symm, rfl⟩
end Go.Proofs.YtnodhbgkoedalaaGreatDoor

namespace Go.Proofs.YtnodhbgkoedalaaGreatDoor
open Go.RowKit Reply

/-- A size as the program has it: -1 is a line. -/
def szI : Option Nat → Int
  | none => -1
  | some k => (k : Int)
theorem find_first {l : Reply.B} {k : Nat} (hk : k < (l.take 1026).length) (h10 : l.getD k 0 = 10) (hb : ∀ c ∈ l.take k, c ≠ 10) : Wire.lineSize l = k + 1 := by
  unfold Wire.lineSize
  have hkl : k < l.length := by rw [List.length_take] at hk; omega
  have hk6 : k < 1026 := by rw [List.length_take] at hk; omega
  have e : (l.take 1026).findIdx? (· == 10) = some k := by
    rw [List.findIdx?_eq_some_iff_getElem]
    refine ⟨hk, ?_, fun j hj => ?_⟩
    · rw [List.getElem_take]
      rw [List.getD_eq_getElem?_getD, List.getElem?_eq_getElem hkl] at h10
      simpa using h10
    · rw [List.getElem_take]
      have hm : l[j]'(by omega) ∈ l.take k := by
        rw [List.mem_take_iff_getElem]
        exact ⟨j, by omega, rfl⟩
      simpa using hb _ hm
  rw [e]
theorem find_never {l : Reply.B} (hb : ∀ c ∈ l.take (min l.length 1026), c ≠ 10) : Wire.lineSize l = 1026 := by
  unfold Wire.lineSize
  have e : (l.take 1026).findIdx? (· == 10) = none := by
    rw [List.findIdx?_eq_none_iff]
    intro x hx
    have : l.take (min l.length 1026) = l.take 1026 := by
      by_cases h : l.length ≤ 1026
      · rw [Nat.min_eq_left h, List.take_length, List.take_of_length_le h]
      · rw [Nat.min_eq_right (by omega)]
    rw [this] at hb
    simpa using hb x hx
  rw [e]
set_option maxRecDepth 100000 in
set_option maxHeartbeats 4000000 in
theorem linesize_any (w : World) (l : Reply.B) :
    Calls Tryz.prog 23 #[.string (S l)] w fun e w' => e = .returned (.int .i64 (Wire.lineSize l : Int)) ∧ w = w' := by
  obtain ⟨s, hs⟩ : ∃ x, x = S l := ⟨_, rfl⟩
  have HA : Hid (∀ k (hk : k < s.size), (s[k]'hk) = l.getD k 0) := fun k hk => by subst hs; exact S_at l k hk
  have HL : Hid (s.size = l.length) := by show _ = _; rw [hs]; exact S_size l
  rw [← hs]
  obtain ⟨m, hm⟩ : ∃ m, m = min s.size 1026 := ⟨_, rfl⟩
  have m1 : m ≤ s.size := by omega
  have m2 : m ≤ 1026 := by omega
  have hmi : (if (1026 : Int) < (s.size : Int) then (1026 : Int) else (s.size : Int)) = (m : Int) := by split <;> omega
  have hmj : min (s.size : Int) 1026 = (m : Int) := by omega
  have HM := Lib.hid hm
  obtain ⟨R, hR⟩ : ∃ x, x = Wire.lineSize l := ⟨_, rfl⟩
  have HR := Lib.hid hR
  rw [← hR]
  clear hs hm hR
  go_enter Tryz.func23, Tryz.ntmps23
  go_wp2
  go_loop [3, 7] (fun _ i => ∃ k : Nat, k ≤ m ∧ i = .int .i64 k ∧ Hid (∀ c ∈ l.take k, c ≠ 10)) (fun _ i => m - (intOf i).toNat)
  case atStart => exact ⟨0, by omega, rfl, by show ∀ c ∈ _, _; simp⟩
  case round =>
    obtain ⟨k, hk, rfl, hn⟩ := hrel
    by_cases hlt : k < m
    · have hks : k < s.size := by omega
      obtain ⟨c, hc⟩ : ∃ c, c = (s[k]'hks) := ⟨_, rfl⟩
      obtain ⟨x, hx⟩ : ∃ x, x = c.toNat := ⟨_, rfl⟩
      have hxe : ((s[k]'hks).toNat : Int) = (x : Int) := by rw [hx, hc]
      have C := Lib.hid (hc.trans (HA.out k hks))
      have hlz : (k : Int) < (m : Int) := by omega
      have hlz2 : (k : Int) < (s.size : Int) := by omega
      have TN : Hid (l.take (k + 1) = l.take k ++ [c]) := by show _ = _; rw [take_nextU (by rw [← HL.out]; exact hks), ← C.out]
      by_cases h10 : x = 10
      · have F : Hid (R = k + 1) := by
          show _ = _
          rw [HR.out]
          refine find_first (by rw [List.length_take, ← HL.out]; omega) ?_ hn.out
          rw [← C.out]
          apply UInt8.toNat_inj.1
          rw [← hx]
          exact h10
        have f0 : ((x : Int) == 10) = true := by rw [h10]; rfl
        clear hc hx h10
        go_wp2
        go_ret
        exact ⟨by rw [F.out]; simp, rfl⟩
      · have f0 : ((x : Int) == 10) = false := by rw [beq_eq_false_iff_ne]; omega
        have N : Hid (∀ d ∈ l.take (k + 1), d ≠ 10) := by
          show ∀ d ∈ _, _
          rw [TN.out]
          intro d hd
          rcases List.mem_append.1 hd with hd | hd
          · exact hn.out d hd
          · have : d = c := by simpa using hd
            rw [this]
            intro e
            rw [e] at hx
            exact h10 hx
        clear hc hx h10
        go_wp2
        go_round
        case rel => exact ⟨k + 1, by omega, by go_num, N⟩
        case measure => simp [intOf]; omega
    · obtain rfl : k = m := by omega
      have F : Hid (R = 1026) := by
        show _ = _
        rw [HR.out]
        refine find_never ?_
        rw [← HL.out, ← HM.out]
        exact hn.out
      go_wp2
      go_ret
      exact ⟨by rw [F.out]; rfl, rfl⟩
set_option maxRecDepth 100000 in
set_option maxHeartbeats 4000000 in
theorem cut_str_any (w : World) (l : Reply.B) (k : Option Nat) (hk : ∀ n, k = some n → n ≤ 4294967296) :
    Calls Tryz.prog 19 #[.string (S l), .int .i64 (szI k)] w fun e w' => e = .returned (.tuple #[.string (if Wire.size l k ≤ l.length then S (l.take (Wire.size l k)) else S []), .bool (decide (Wire.size l k ≤ l.length))]) ∧ Below w.heap.size w w' := by
  have LS := Lib.hid (fun u => linesize_any u l)
  obtain ⟨n, hn⟩ : ∃ n, n = Wire.size l k := ⟨_, rfl⟩
  rw [← hn]
  have n2 : n ≤ 4294967296 := by
    rw [hn]
    rcases k with _ | k
    · have := Wire.lineSize_le l; show Wire.lineSize l ≤ _; omega
    · exact hk k rfl
  obtain ⟨s, hs⟩ : ∃ x, x = S l := ⟨_, rfl⟩
  have hsz : s.size = l.length := by rw [hs, S_size]
  have X1 : s.extract 0 n = S (l.take n) := by rw [hs, S_extract]; simp
  have CL := Lib.hid (fun u => fclone_any u (S (l.take n)) (by rw [S_size, List.length_take]; omega))
  rw [← hs] at LS
  have HSZ := Lib.hid hsz
  rw [show (decide (n ≤ l.length)) = decide (n ≤ s.size) by rw [hsz]]
  rcases k with _ | k
  · have e1 : Wire.lineSize l = n := hn.symm
    rw [e1] at LS
    show Calls _ _ #[.string (S l), .int .i64 (-1)] _ _
    rw [← hs]
    by_cases hle : n ≤ s.size
    · have f0 : decide ((s.size : Int) < (n : Int)) = false := decide_eq_false (by omega)
      have hle2 : (n : Int) ≤ (s.size : Int) := by omega
      have hle3 : ¬ (s.size : Int) < (n : Int) := by omega
      have F : Hid ((if n ≤ l.length then S (l.take n) else S []) = S (l.take n)) := if_pos (by rw [← HSZ.out]; exact hle)
      rw [F.out, decide_eq_true hle]
      clear hn hs hsz e1 hk
      go_enter Tryz.func19, Tryz.ntmps19
      go_wp2_with fail
      refine (LS.out _).mono ?_
      rintro e w' ⟨rfl, rfl⟩
      clear LS
      go_wp2_with fail
      refine (CL.out _).mono ?_
      rintro e w1 ⟨rfl, hb⟩
      have B1 := Lib.hid hb
      clear hb CL
      go_wp2_with fail
      go_ret2
      exact ⟨rfl, B1.out⟩
    · have f0 : decide ((s.size : Int) < (n : Int)) = true := decide_eq_true (by omega)
      have hle3 : (s.size : Int) < (n : Int) := by omega
      have F : Hid ((if n ≤ l.length then S (l.take n) else S []) = S []) := if_neg (by rw [← HSZ.out]; exact hle)
      rw [F.out, decide_eq_false hle]
      clear hn hs hsz e1 hk CL X1
      go_enter Tryz.func19, Tryz.ntmps19
      go_wp2_with fail
      refine (LS.out _).mono ?_
      rintro e w' ⟨rfl, rfl⟩
      clear LS
      go_wp2_with fail
      go_ret2
      exact ⟨rfl, Below.refl _ _⟩
  · obtain rfl : n = k := hn
    show Calls _ _ #[.string (S l), .int .i64 (n : Int)] _ _
    rw [← hs]
    have fm : ((n : Int) == -1) = false := by rw [beq_eq_false_iff_ne]; omega
    by_cases hle : n ≤ s.size
    · have f0 : decide ((s.size : Int) < (n : Int)) = false := decide_eq_false (by omega)
      have hle2 : (n : Int) ≤ (s.size : Int) := by omega
      have hle3 : ¬ (s.size : Int) < (n : Int) := by omega
      have F : Hid ((if n ≤ l.length then S (l.take n) else S []) = S (l.take n)) := if_pos (by rw [← HSZ.out]; exact hle)
      rw [F.out, decide_eq_true hle]
      clear hs hsz hk LS
      go_enter Tryz.func19, Tryz.ntmps19
      go_wp2_with fail
      refine (CL.out _).mono ?_
      rintro e w1 ⟨rfl, hb⟩
      have B1 := Lib.hid hb
      clear hb CL
      go_wp2_with fail
      go_ret2
      exact ⟨rfl, B1.out⟩
    · have f0 : decide ((s.size : Int) < (n : Int)) = true := decide_eq_true (by omega)
      have hle3 : (s.size : Int) < (n : Int) := by omega
      have F : Hid ((if n ≤ l.length then S (l.take n) else S []) = S []) := if_neg (by rw [← HSZ.out]; exact hle)
      rw [F.out, decide_eq_false hle]
      clear hs hsz hk CL X1 LS
      go_enter Tryz.func19, Tryz.ntmps19
      go_wp2_with fail
      go_ret2
      exact ⟨rfl, Below.refl _ _⟩
set_option maxRecDepth 100000 in
set_option maxHeartbeats 4000000 in
theorem wants_any {w0 w : World} {B p : Nat} {ty : TypeId} {z : List Value} {s : Wire.St} {A : Option Addr} {c : Nat} (h : RdS w0 B w p ty z s A c) (h8 : s.step ≤ 8) :
    Calls Tryz.prog 20 #[.pointer (some ⟨p, 0, none⟩)] w fun e w' => e = .returned (.int .i64 (szI (Wire.wants s))) ∧ w = w' := by
  have c0 : w.cell? ⟨p, 0, none⟩ = some (.int .i64 (s.step : Int)) := h.cell 0
  have c1 : w.cell? ⟨p, 1, none⟩ = some (.int .i64 (s.size : Int)) := h.cell 1
  have E : Hid (Wire.wants s = if s.step = 2 ∨ s.step = 4 then some s.size else if s.step = 5 ∨ s.step = 6 then some 1 else none) := rfl
  obtain ⟨R, hR⟩ : ∃ x, x = Wire.wants s := ⟨_, rfl⟩
  rw [← hR] at E ⊢
  obtain ⟨k, hk⟩ : ∃ k, k = s.step := ⟨_, rfl⟩
  obtain ⟨n, hn⟩ : ∃ n, n = s.size := ⟨_, rfl⟩
  rw [← hk] at c0 E h8
  rw [← hn] at c1 E
  clear h hR hk hn
  rcases (show k = 0 ∨ k = 1 ∨ k = 2 ∨ k = 3 ∨ k = 4 ∨ k = 5 ∨ k = 6 ∨ k = 7 ∨ k = 8 by omega) with rfl | rfl | rfl | rfl | rfl | rfl | rfl | rfl | rfl
  all_goals
    (go_enter Tryz.func20, Tryz.ntmps20
     go_wp2_with fail
     go_ret
     exact ⟨by rw [E.out]; rfl, rfl⟩)
end Go.Proofs.YtnodhbgkoedalaaGreatDoor
