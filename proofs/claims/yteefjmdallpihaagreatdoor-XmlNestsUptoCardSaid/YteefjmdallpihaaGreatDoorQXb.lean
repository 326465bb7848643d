/-
  xml: internal/strconv.ParseUint at base 10 and at base 16, of whatever bytes.
-/
import Derived.Test.YteefjmdallpihaaGreatDoorQXa
import Derived.Lib.ConvBytes
namespace Go.Proofs.YteefjmdallpihaaGreatDoor
namespace Xml
theorem numOf_app (base : Nat) : ∀ (m r : B) (a : Nat), numOf base a (m ++ r) = (numOf base a m).bind fun n => numOf base n r
  | [], r, a => rfl
  | c :: m, r, a => by
    show (match digit base c with
      | some d => numOf base (a * base + d) (m ++ r)
      | none => none) = (match digit base c with
      | some d => numOf base (a * base + d) m
      | none => none).bind _
    cases digit base c with
    | none => rfl
    | some d => exact numOf_app base m r _
theorem numOf_bad {base : Nat} {l : B} {k : Nat} (hk : k < l.length) {c : UInt8} (hc : l.getD k 0 = c) (hd : digit base c = none) : numOf base 0 l = none := by
  have e : l = l.take k ++ c :: l.drop (k + 1) := by
    have h1 : l.drop k = c :: l.drop (k + 1) := by
      rw [← hc, List.getD_eq_getElem?_getD, List.getElem?_eq_getElem hk]
      exact List.drop_eq_getElem_cons hk
    rw [← h1, List.take_append_drop]
  rw [e, numOf_app]
  cases numOf base 0 (l.take k) with
  | none => rfl
  | some n =>
    show numOf base n (c :: l.drop (k + 1)) = none
    unfold numOf
    rw [hd]
theorem numOf_next {base n d : Nat} {l : B} {k : Nat} (hk : k < l.length) {c : UInt8} (hc : l.getD k 0 = c) (hd : digit base c = some d) (h : numOf base 0 (l.take k) = some n) : numOf base 0 (l.take (k + 1)) = some (n * base + d) := by
  have e : l.take (k + 1) = l.take k ++ [c] := by
    rw [← hc, List.getD_eq_getElem?_getD, List.getElem?_eq_getElem hk, List.take_succ_eq_append_getElem hk]
    rfl
  rw [e, numOf_app, h]
  show numOf base n [c] = _
  unfold numOf
  rw [hd]
  rfl
theorem digit_num {base : Nat} {c : UInt8} (h : 48 ≤ c.toNat ∧ c.toNat ≤ 57) (hb : 10 ≤ base) : digit base c = some (c.toNat - 48) := by
  unfold digit
  simp only [if_pos h]
  rw [if_pos (by omega)]
theorem digit_low {base : Nat} {c : UInt8} (h : 97 ≤ c.toNat ∧ c.toNat ≤ 122) (hb : c.toNat - 87 < base) : digit base c = some (c.toNat - 87) := by
  unfold digit
  simp only [if_neg (show ¬ (48 ≤ c.toNat ∧ c.toNat ≤ 57) by omega), if_pos h]
  rw [if_pos hb]
theorem digit_up {base : Nat} {c : UInt8} (h : 65 ≤ c.toNat ∧ c.toNat ≤ 90) (hb : c.toNat - 55 < base) : digit base c = some (c.toNat - 55) := by
  unfold digit
  simp only [if_neg (show ¬ (48 ≤ c.toNat ∧ c.toNat ≤ 57) by omega), if_neg (show ¬ (97 ≤ c.toNat ∧ c.toNat ≤ 122) by omega), if_pos h]
  rw [if_pos hb]
theorem digit_none {base : Nat} {c : UInt8} (h0 : ¬ (48 ≤ c.toNat ∧ c.toNat ≤ 57)) (h1 : (97 ≤ c.toNat ∧ c.toNat ≤ 122) → base ≤ c.toNat - 87) (h2 : (65 ≤ c.toNat ∧ c.toNat ≤ 90) → base ≤ c.toNat - 55) (hb : base ≤ 99) : digit base c = none := by
  unfold digit
  simp only [if_neg h0]
  split
  · rename_i h
    rw [if_neg (by have := h1 h; omega)]
  · split
    · rename_i h
      rw [if_neg (by have := h2 h; omega)]
    · rw [if_neg (by omega)]
end Xml
open Go.RowKit Reply Go.Shelf

theorem orX : ∀ c : Fin 256, 0 ≤ bits .or .u8 (c.val : Int) 32 ∧ bits .or .u8 (c.val : Int) 32 < 256 ∧ ((97 ≤ bits .or .u8 (c.val : Int) 32 ∧ bits .or .u8 (c.val : Int) 32 ≤ 122) → (97 ≤ c.val ∧ c.val ≤ 122 ∧ bits .or .u8 (c.val : Int) 32 = c.val) ∨ (65 ≤ c.val ∧ c.val ≤ 90 ∧ bits .or .u8 (c.val : Int) 32 = c.val + 32)) ∧
    (((97 ≤ c.val ∧ c.val ≤ 122) ∨ (65 ≤ c.val ∧ c.val ≤ 90)) → (97 ≤ bits .or .u8 (c.val : Int) 32 ∧ bits .or .u8 (c.val : Int) 32 ≤ 122)) := by decide +kernel
set_option maxRecDepth 100000 in
theorem lowerX_any (x : Nat) (hx : x < 256) : ∃ y : Nat, y < 256 ∧ ((97 ≤ y ∧ y ≤ 122) → (97 ≤ x ∧ x ≤ 122 ∧ y = x) ∨ (65 ≤ x ∧ x ≤ 90 ∧ y = x + 32)) ∧ (((97 ≤ x ∧ x ≤ 122) ∨ (65 ≤ x ∧ x ≤ 90)) → (97 ≤ y ∧ y ≤ 122)) ∧ ∀ w : World,
    Calls Tryz.prog 122 #[.int .u8 (x : Int)] w fun e w' => e = .returned (.int .u8 (y : Int)) ∧ w = w' := by
  obtain ⟨o0, o1, o2, o3⟩ := orX ⟨x, hx⟩
  simp only at o0 o1 o2 o3
  obtain ⟨z, hz⟩ : ∃ z, z = bits .or .u8 (x : Int) 32 := ⟨_, rfl⟩
  rw [← hz] at o0 o1 o2 o3
  obtain ⟨y, rfl⟩ : ∃ y : Nat, z = (y : Int) := ⟨z.toNat, by omega⟩
  refine ⟨y, by omega, fun h => ?_, fun h => ?_, fun w => ?_⟩
  · rcases o2 ⟨by omega, by omega⟩ with ⟨a, b, c⟩ | ⟨a, b, c⟩
    · exact .inl ⟨a, b, by omega⟩
    · exact .inr ⟨a, b, by omega⟩
  · have := o3 h
    omega
  · have hz2 := hz.symm
    clear o0 o1 o2 o3 hz hx
    go_enter Tryz.func122, Tryz.ntmps122
    go_wp2
    go_ret
    exact ⟨rfl, rfl⟩
theorem bytes_belowX (w : World) (e : TypeId) (s : ByteArray) : Below w.heap.size w (Lib.bytesWorld w e s) :=
  ⟨rfl, rfl, rfl, by rw [Lib.bytesWorld_size]; omega, fun k hk => Lib.bytesWorld_at_old w e s k hk⟩
/-- A block whose first cells are these bytes; none of them is frozen. -/
def LowAtX (w : World) (g : Nat) (l : Reply.B) : Prop := ∃ cs mk, w.heap[g]? = some (.cells cs 5 mk) ∧ cs.size ≤ mk.1 ∧ l.length ≤ cs.size ∧ ∀ i, i < l.length → cs[i]? = some (.int .u8 ((l.getD i 0).toNat : Int))
theorem LowAtX.cell {w : World} {g : Nat} {l : Reply.B} (h : LowAtX w g l) {i : Nat} (hi : i < l.length) : w.cell? ⟨g, i, none⟩ = some (.int .u8 ((l.getD i 0).toNat : Int)) := by
  obtain ⟨cs, mk, h1, h2, h3, h4⟩ := h
  rw [cell_of_row w g i cs _ mk h1]
  exact h4 i hi
theorem low_newX (w : World) (l : Reply.B) : LowAtX (Lib.bytesWorld w 5 (S l)) w.heap.size l := by
  have hge := grownCap_ge w (S l).size 0 5
  refine ⟨_, _, Lib.bytesWorld_at_new w 5 (S l), Nat.le_refl _, ?_, fun i hi => ?_⟩
  · unfold Lib.bytesCells
    rw [Array.size_append, Array.size_map]
    have : (S l).data.size = l.length := S_size l
    omega
  · unfold Lib.bytesCells
    have hi' : i < (S l).data.size := by have : (S l).data.size = l.length := S_size l; omega
    rw [Array.getElem?_append_left (by rw [Array.size_map]; exact hi'), Array.getElem?_map]
    have : (S l).data[i]? = some (l.getD i 0) := by
      show l.toArray[i]? = _
      rw [List.getElem?_toArray, List.getD_eq_getElem?_getD, List.getElem?_eq_getElem hi]
      rfl
    rw [this]
    rfl
/-- What ParseUint answers. -/
def PuE (base : Nat) (l : Reply.B) (e : Ending) : Prop :=
  (∃ v : Int, 0 ≤ v ∧ v < 18446744073709551616 ∧ e = .returned (.tuple #[.int .u64 v, .nilIface]) ∧ (l.length ≤ 9 → l ≠ [] ∧ ∃ n : Nat, Xml.numOf base 0 l = some n ∧ v = (n : Int))) ∨
  (∃ (v k : Int), (k = 1 ∨ k = 2) ∧ e = .returned (.tuple #[.int .u64 v, .iface 150 (.int .i64 k)]) ∧ (l.length ≤ 9 → l = [] ∨ Xml.numOf base 0 l = none))
theorem PuE.bad {base : Nat} {l : Reply.B} (v k : Int) (hk : k = 1 ∨ k = 2) (h : l.length ≤ 9 → l = [] ∨ Xml.numOf base 0 l = none) : PuE base l (.returned (.tuple #[.int .u64 v, .iface 150 (.int .i64 k)])) := .inr ⟨v, k, hk, rfl, h⟩
theorem PuE.good {base : Nat} {l : Reply.B} (v : Int) (h0 : 0 ≤ v) (h1 : v < 18446744073709551616) (h : l.length ≤ 9 → l ≠ [] ∧ ∃ n : Nat, Xml.numOf base 0 l = some n ∧ v = (n : Int)) : PuE base l (.returned (.tuple #[.int .u64 v, .nilIface])) := .inl ⟨v, h0, h1, rfl, h⟩
/-- What has been read of the digits. -/
def PuI (base : Nat) (l : Reply.B) (k : Nat) (a : Int) : Prop := 0 ≤ a ∧ a < 18446744073709551616 ∧ (l.length ≤ 9 → ∃ m : Nat, Xml.numOf base 0 (l.take k) = some m ∧ a = (m : Int) ∧ m < base ^ k)
theorem PuI.next {base : Nat} {l : Reply.B} {k : Nat} {a z : Int} (h : PuI base l k a) (hk : k < l.length) {c : UInt8} (hc : l.getD k 0 = c) {d : Nat} (hd : Xml.digit base c = some d) (hdb : d < base) (hz : z = a * (base : Int) + (d : Int)) (hz2 : z < 18446744073709551616) : PuI base l (k + 1) z := by
  refine ⟨?_, hz2, fun h9 => ?_⟩
  · have := Int.mul_nonneg h.1 (Int.natCast_nonneg base)
    omega
  · obtain ⟨m, h1, h2, h3⟩ := h.2.2 h9
    refine ⟨m * base + d, Xml.numOf_next hk hc hd h1, ?_, ?_⟩
    · rw [hz, h2]
      push_cast
      rfl
    · rw [Nat.pow_succ]
      calc m * base + d < m * base + base := by omega
        _ = (m + 1) * base := by rw [Nat.add_mul, Nat.one_mul]
        _ ≤ base ^ k * base := Nat.mul_le_mul_right _ h3
theorem PuI.few {base : Nat} {l : Reply.B} {k : Nat} {a : Int} (h : PuI base l k a) (hb : base ≤ 16) (hk : k ≤ l.length) (h9 : l.length ≤ 9) : a < 68719476736 := by
  obtain ⟨m, h1, h2, h3⟩ := h.2.2 h9
  have e1 : base ^ k ≤ 16 ^ k := Nat.pow_le_pow_left hb k
  have e2 : 16 ^ k ≤ 16 ^ 9 := Nat.pow_le_pow_right (by omega) (by omega)
  have e3 : (16 : Nat) ^ 9 = 68719476736 := by decide
  omega
set_option maxRecDepth 100000 in
set_option maxHeartbeats 64000000 in
theorem ipuX10 (w : World) (l : Reply.B) (hl : l.length ≤ 65536) :
    Calls Tryz.prog 118 #[.string (S l), .int .i64 10, .int .i64 64] w fun e w' => PuE 10 l e ∧ Below w.heap.size w w' := by
  by_cases h0 : l = []
  · have hemp : (S l).toList.isEmpty = true := by rw [S_empty]; exact decide_eq_true h0
    have F : Hid (∀ v k : Int, (k = 1 ∨ k = 2) → PuE 10 l (.returned (.tuple #[.int .u64 v, .iface 150 (.int .i64 k)]))) := fun v k hk => PuE.bad v k hk (fun _ => .inl h0)
    clear h0
    go_enter Tryz.func118, Tryz.ntmps118
    go_wp2
    go_ret2
    exact ⟨F.out _ _ (.inr rfl), Below.refl _ _⟩
  · have CV := Lib.run_convert_string_bytes (P := Tryz.prog) w 9 24 5 (S l) Tryz.underlying9 Tryz.underlying24 Tryz.underlying5
    have L0 := Lib.hid (low_newX w l)
    have B0 : Hid (Below w.heap.size w (Lib.bytesWorld w 5 (S l))) := bytes_belowX _ _ _
    obtain ⟨w1, hw1⟩ : ∃ w1, w1 = Lib.bytesWorld w 5 (S l) := ⟨_, rfl⟩
    obtain ⟨cp, hcp⟩ : ∃ cp, cp = grownCap w (S l).size 0 5 := ⟨_, rfl⟩
    obtain ⟨g, hg⟩ : ∃ g, g = w.heap.size := ⟨_, rfl⟩
    rw [← hw1] at CV L0 B0
    rw [← hcp, S_size, ← hg] at CV
    rw [← hg] at L0
    have hemp : (S l).toList.isEmpty = false := by rw [S_empty]; exact decide_eq_false h0
    have NE := Lib.hid h0
    obtain ⟨s, hs⟩ : ∃ x, x = S l := ⟨_, rfl⟩
    rw [← hs] at CV hemp ⊢
    have HLL := Lib.hid hl
    obtain ⟨n, hn⟩ : ∃ n, n = l.length := ⟨_, rfl⟩
    have HN := Lib.hid hn
    rw [← hn] at CV
    have nz : n ≤ 65536 := by omega
    clear hw1 hcp hg hs h0 hl hn
    have hmv : IntKind.u64.wrap (IntKind.u64.wrap 18446744073709551616 - 1) = 18446744073709551615 := by
      rw [IntKind.wrap_u64, IntKind.wrap_u64]
      decide
    go_enter Tryz.func118, Tryz.ntmps118
    go_wp2
    go_loop [12, 13, 101] (fun vu vn vi => ∃ (k : Nat) (a : Int), vu = .bool false ∧ vn = .int .u64 a ∧ vi = .int .i64 k ∧ k ≤ n ∧ Hid (PuI 10 l k a)) (fun _ _ vi => n - (intOf vi).toNat)
    case atStart => exact ⟨0, 0, rfl, rfl, rfl, by omega, by show PuI _ _ _ _; exact ⟨by decide, by decide, fun _ => ⟨0, rfl, rfl, by decide⟩⟩⟩
    case round =>
      obtain ⟨k, a, rfl, rfl, rfl, hk, HA⟩ := hrel
      by_cases hlt : k < n
      · have hlz : (k : Int) < (n : Int) := by omega
        have hkl : k < l.length := by rw [← HN.out]; exact hlt
        have hc := L0.out.cell hkl
        obtain ⟨c, hcc⟩ : ∃ c, c = l.getD k 0 := ⟨_, rfl⟩
        rw [← hcc] at hc
        have HC : Hid (l.getD k 0 = c) := hcc.symm
        have HKL := Lib.hid hkl
        have a0 : 0 ≤ a := HA.out.1
        have a2 : a < 18446744073709551616 := HA.out.2.1
        have c8 := c.toNat_lt
        obtain ⟨x, hx⟩ : ∃ x, x = c.toNat := ⟨_, rfl⟩
        rw [← hx] at hc c8
        have X := Lib.hid hx
        have FEW : Hid (1844674407370955162 ≤ a → l.length ≤ 9 → False) := fun h h9 => by
          have := HA.out.few (by decide) (Nat.le_of_lt HKL.out) h9
          omega
        have F2 : Hid (Xml.digit 10 c = none → PuE 10 l (.returned (.tuple #[.int .u64 0, .iface 150 (.int .i64 2)]))) := fun h => PuE.bad 0 2 (.inr rfl) (fun _ => .inr (Xml.numOf_bad HKL.out HC.out h))
        have F1 : Hid (1844674407370955162 ≤ a → PuE 10 l (.returned (.tuple #[.int .u64 18446744073709551615, .iface 150 (.int .i64 1)]))) := fun h => PuE.bad _ 1 (.inl rfl) (fun h9 => (FEW.out h h9).elim)
        have NX : Hid (∀ (d : Nat) (z : Int), Xml.digit 10 c = some d → d < 10 → z = a * 10 + (d : Int) → z < 18446744073709551616 → PuI 10 l (k + 1) z) := fun d z h1 h2 h3 h4 => HA.out.next HKL.out HC.out h1 h2 h3 h4
        have FO : Hid (18446744073709551616 ≤ a * 10 + 16 → PuE 10 l (.returned (.tuple #[.int .u64 18446744073709551615, .iface 150 (.int .i64 1)]))) := fun h => PuE.bad _ 1 (.inl rfl) (fun h9 => by
          have := HA.out.few (by decide) (Nat.le_of_lt HKL.out) h9
          omega)
        obtain ⟨y, y8, yl, yx, LO⟩ := lowerX_any x c8
        have LO := Lib.hid LO
        clear hcc hkl hx
        by_cases hd : 48 ≤ x ∧ x ≤ 57
        · have f0 : ((x : Int) == 95) = false := by rw [beq_eq_false_iff_ne]; omega
          have f1 : decide ((48 : Int) ≤ (x : Int)) = true := decide_eq_true (by omega)
          have f2 : decide ((x : Int) ≤ 57) = true := decide_eq_true (by omega)
          have DG : Hid (Xml.digit 10 c = some (x - 48)) := by show _ = _; rw [X.out]; exact Xml.digit_num (by rw [← X.out]; exact hd) (by decide)
          have hd1 := hd.1
          have hd2 := hd.2
          clear hd yl yx
          by_cases hcut : a < 1844674407370955162
          · have iov : a * 10 < 18446744073709551616 := by omega
            by_cases hov : a * 10 + ((x : Int) - 48) < 18446744073709551616
            · go_wp2
              go_round
              case rel => exact ⟨k + 1, a * 10 + ((x : Int) - 48), rfl, by first | rfl | (congr 1; omega), by first | rfl | (congr 1; omega), by omega, NX.out (x - 48) _ DG.out (by omega) (by omega) hov⟩
              case measure => simp [intOf]; omega
            · have hwr : IntKind.u64.wrap (a * 10 + ((x : Int) - 48)) = a * 10 + ((x : Int) - 48) - 18446744073709551616 := by
                rw [IntKind.wrap_u64]
                omega
              have hlt2 : decide (a * 10 + ((x : Int) - 48) - 18446744073709551616 < a * 10) = true := decide_eq_true (by omega)
              go_wp2
              go_ret2
              exact ⟨FO.out (by omega), B0.out⟩
          · go_wp2
            go_ret2
            exact ⟨F1.out (by omega), B0.out⟩
        · have hnd := hd
          clear hd
          rcases (show x = 95 ∨ x < 48 ∨ (57 < x ∧ x ≠ 95) by omega) with h95 | h48 | h57
          · subst h95
            have LO : Hid (∀ u : World, Calls Tryz.prog 122 #[.int .u8 95] u fun e w' => e = .returned (.int .u8 (y : Int)) ∧ u = w') := LO.out
            by_cases hy1 : 97 ≤ y
            · have g1 : decide ((97 : Int) ≤ (y : Int)) = true := decide_eq_true (by omega)
              by_cases hy2 : y ≤ 122
              · have g2 : decide ((y : Int) ≤ 122) = true := decide_eq_true (by omega)
                have hyx := yl ⟨hy1, hy2⟩
                exact absurd hyx (by omega)
              · have g2 : decide ((y : Int) ≤ 122) = false := decide_eq_false (by omega)
                have DN : Hid (Xml.digit 10 c = none) := Xml.digit_none (by rw [← X.out]; omega) (by rw [← X.out]; omega) (by rw [← X.out]; omega) (by decide)
                clear yl yx hnd
                go_wp2_with fail
                refine (LO.out _).mono ?_
                rintro e w' ⟨rfl, rfl⟩
                go_wp2_with fail
                refine (LO.out _).mono ?_
                rintro e w' ⟨rfl, rfl⟩
                go_wp2
                go_ret2
                exact ⟨F2.out DN.out, B0.out⟩
            · have g1 : decide ((97 : Int) ≤ (y : Int)) = false := decide_eq_false (by omega)
              have DN : Hid (Xml.digit 10 c = none) := Xml.digit_none (by rw [← X.out]; omega) (by rw [← X.out]; omega) (by rw [← X.out]; omega) (by decide)
              clear yl yx hnd
              go_wp2_with fail
              refine (LO.out _).mono ?_
              rintro e w' ⟨rfl, rfl⟩
              go_wp2
              go_ret2
              exact ⟨F2.out DN.out, B0.out⟩
          · have f0 : ((x : Int) == 95) = false := by rw [beq_eq_false_iff_ne]; omega
            have f1 : decide ((48 : Int) ≤ (x : Int)) = false := decide_eq_false (by omega)
            by_cases hy1 : 97 ≤ y
            · have g1 : decide ((97 : Int) ≤ (y : Int)) = true := decide_eq_true (by omega)
              by_cases hy2 : y ≤ 122
              · have g2 : decide ((y : Int) ≤ 122) = true := decide_eq_true (by omega)
                have hyx := yl ⟨hy1, hy2⟩
                exact absurd hyx (by omega)
              · have g2 : decide ((y : Int) ≤ 122) = false := decide_eq_false (by omega)
                have DN : Hid (Xml.digit 10 c = none) := Xml.digit_none (by rw [← X.out]; omega) (by rw [← X.out]; omega) (by rw [← X.out]; omega) (by decide)
                clear yl yx hnd
                go_wp2_with fail
                refine (LO.out _).mono ?_
                rintro e w' ⟨rfl, rfl⟩
                go_wp2_with fail
                refine (LO.out _).mono ?_
                rintro e w' ⟨rfl, rfl⟩
                go_wp2
                go_ret2
                exact ⟨F2.out DN.out, B0.out⟩
            · have g1 : decide ((97 : Int) ≤ (y : Int)) = false := decide_eq_false (by omega)
              have DN : Hid (Xml.digit 10 c = none) := Xml.digit_none (by rw [← X.out]; omega) (by rw [← X.out]; omega) (by rw [← X.out]; omega) (by decide)
              clear yl yx hnd
              go_wp2_with fail
              refine (LO.out _).mono ?_
              rintro e w' ⟨rfl, rfl⟩
              go_wp2
              go_ret2
              exact ⟨F2.out DN.out, B0.out⟩
          · have f0 : ((x : Int) == 95) = false := by rw [beq_eq_false_iff_ne]; omega
            have f1 : decide ((48 : Int) ≤ (x : Int)) = true := decide_eq_true (by omega)
            have f2 : decide ((x : Int) ≤ 57) = false := decide_eq_false (by omega)
            by_cases hy1 : 97 ≤ y
            · have g1 : decide ((97 : Int) ≤ (y : Int)) = true := decide_eq_true (by omega)
              by_cases hy2 : y ≤ 122
              · have g2 : decide ((y : Int) ≤ 122) = true := decide_eq_true (by omega)
                have hyx := yl ⟨hy1, hy2⟩
                have DN : Hid (Xml.digit 10 c = none) := Xml.digit_none (by rw [← X.out]; omega) (by rw [← X.out]; omega) (by rw [← X.out]; omega) (by decide)
                clear yl yx hyx hnd
                go_wp2_with fail
                refine (LO.out _).mono ?_
                rintro e w' ⟨rfl, rfl⟩
                go_wp2_with fail
                refine (LO.out _).mono ?_
                rintro e w' ⟨rfl, rfl⟩
                go_wp2_with fail
                refine (LO.out _).mono ?_
                rintro e w' ⟨rfl, rfl⟩
                go_wp2
                go_ret2
                exact ⟨F2.out DN.out, B0.out⟩
              · have g2 : decide ((y : Int) ≤ 122) = false := decide_eq_false (by omega)
                have DN : Hid (Xml.digit 10 c = none) := Xml.digit_none (by rw [← X.out]; omega) (by rw [← X.out]; omega) (by rw [← X.out]; omega) (by decide)
                clear yl yx hnd
                go_wp2_with fail
                refine (LO.out _).mono ?_
                rintro e w' ⟨rfl, rfl⟩
                go_wp2_with fail
                refine (LO.out _).mono ?_
                rintro e w' ⟨rfl, rfl⟩
                go_wp2
                go_ret2
                exact ⟨F2.out DN.out, B0.out⟩
            · have g1 : decide ((97 : Int) ≤ (y : Int)) = false := decide_eq_false (by omega)
              have DN : Hid (Xml.digit 10 c = none) := Xml.digit_none (by rw [← X.out]; omega) (by rw [← X.out]; omega) (by rw [← X.out]; omega) (by decide)
              clear yl yx hnd
              go_wp2_with fail
              refine (LO.out _).mono ?_
              rintro e w' ⟨rfl, rfl⟩
              go_wp2
              go_ret2
              exact ⟨F2.out DN.out, B0.out⟩
      · obtain rfl : k = n := by omega
        have F : Hid (PuE 10 l (.returned (.tuple #[.int .u64 a, .nilIface]))) := PuE.good a HA.out.1 HA.out.2.1 (fun h9 => by
          obtain ⟨m, h1, h2, _⟩ := HA.out.2.2 h9
          rw [HN.out, List.take_length] at h1
          exact ⟨NE.out, m, h1, h2⟩)
        go_wp2
        go_ret2
        exact ⟨F.out, B0.out⟩
set_option maxRecDepth 100000 in
set_option maxHeartbeats 64000000 in
theorem ipuX16 (w : World) (l : Reply.B) (hl : l.length ≤ 65536) :
    Calls Tryz.prog 118 #[.string (S l), .int .i64 16, .int .i64 64] w fun e w' => PuE 16 l e ∧ Below w.heap.size w w' := by
  by_cases h0 : l = []
  · have hemp : (S l).toList.isEmpty = true := by rw [S_empty]; exact decide_eq_true h0
    have F : Hid (∀ v k : Int, (k = 1 ∨ k = 2) → PuE 16 l (.returned (.tuple #[.int .u64 v, .iface 150 (.int .i64 k)]))) := fun v k hk => PuE.bad v k hk (fun _ => .inl h0)
    clear h0
    go_enter Tryz.func118, Tryz.ntmps118
    go_wp2
    go_ret2
    exact ⟨F.out _ _ (.inr rfl), Below.refl _ _⟩
  · have CV := Lib.run_convert_string_bytes (P := Tryz.prog) w 9 24 5 (S l) Tryz.underlying9 Tryz.underlying24 Tryz.underlying5
    have L0 := Lib.hid (low_newX w l)
    have B0 : Hid (Below w.heap.size w (Lib.bytesWorld w 5 (S l))) := bytes_belowX _ _ _
    obtain ⟨w1, hw1⟩ : ∃ w1, w1 = Lib.bytesWorld w 5 (S l) := ⟨_, rfl⟩
    obtain ⟨cp, hcp⟩ : ∃ cp, cp = grownCap w (S l).size 0 5 := ⟨_, rfl⟩
    obtain ⟨g, hg⟩ : ∃ g, g = w.heap.size := ⟨_, rfl⟩
    rw [← hw1] at CV L0 B0
    rw [← hcp, S_size, ← hg] at CV
    rw [← hg] at L0
    have hemp : (S l).toList.isEmpty = false := by rw [S_empty]; exact decide_eq_false h0
    have NE := Lib.hid h0
    obtain ⟨s, hs⟩ : ∃ x, x = S l := ⟨_, rfl⟩
    rw [← hs] at CV hemp ⊢
    have HLL := Lib.hid hl
    obtain ⟨n, hn⟩ : ∃ n, n = l.length := ⟨_, rfl⟩
    have HN := Lib.hid hn
    rw [← hn] at CV
    have nz : n ≤ 65536 := by omega
    clear hw1 hcp hg hs h0 hl hn
    have hmv : IntKind.u64.wrap (IntKind.u64.wrap 18446744073709551616 - 1) = 18446744073709551615 := by
      rw [IntKind.wrap_u64, IntKind.wrap_u64]
      decide
    go_enter Tryz.func118, Tryz.ntmps118
    go_wp2
    go_loop [12, 13, 101] (fun vu vn vi => ∃ (k : Nat) (a : Int), vu = .bool false ∧ vn = .int .u64 a ∧ vi = .int .i64 k ∧ k ≤ n ∧ Hid (PuI 16 l k a)) (fun _ _ vi => n - (intOf vi).toNat)
    case atStart => exact ⟨0, 0, rfl, rfl, rfl, by omega, by show PuI _ _ _ _; exact ⟨by decide, by decide, fun _ => ⟨0, rfl, rfl, by decide⟩⟩⟩
    case round =>
      obtain ⟨k, a, rfl, rfl, rfl, hk, HA⟩ := hrel
      by_cases hlt : k < n
      · have hlz : (k : Int) < (n : Int) := by omega
        have hkl : k < l.length := by rw [← HN.out]; exact hlt
        have hc := L0.out.cell hkl
        obtain ⟨c, hcc⟩ : ∃ c, c = l.getD k 0 := ⟨_, rfl⟩
        rw [← hcc] at hc
        have HC : Hid (l.getD k 0 = c) := hcc.symm
        have HKL := Lib.hid hkl
        have a0 : 0 ≤ a := HA.out.1
        have a2 : a < 18446744073709551616 := HA.out.2.1
        have c8 := c.toNat_lt
        obtain ⟨x, hx⟩ : ∃ x, x = c.toNat := ⟨_, rfl⟩
        rw [← hx] at hc c8
        have X := Lib.hid hx
        have FEW : Hid (1152921504606846976 ≤ a → l.length ≤ 9 → False) := fun h h9 => by
          have := HA.out.few (by decide) (Nat.le_of_lt HKL.out) h9
          omega
        have F2 : Hid (Xml.digit 16 c = none → PuE 16 l (.returned (.tuple #[.int .u64 0, .iface 150 (.int .i64 2)]))) := fun h => PuE.bad 0 2 (.inr rfl) (fun _ => .inr (Xml.numOf_bad HKL.out HC.out h))
        have F1 : Hid (1152921504606846976 ≤ a → PuE 16 l (.returned (.tuple #[.int .u64 18446744073709551615, .iface 150 (.int .i64 1)]))) := fun h => PuE.bad _ 1 (.inl rfl) (fun h9 => (FEW.out h h9).elim)
        have NX : Hid (∀ (d : Nat) (z : Int), Xml.digit 16 c = some d → d < 16 → z = a * 16 + (d : Int) → z < 18446744073709551616 → PuI 16 l (k + 1) z) := fun d z h1 h2 h3 h4 => HA.out.next HKL.out HC.out h1 h2 h3 h4
        have FO : Hid (18446744073709551616 ≤ a * 16 + 16 → PuE 16 l (.returned (.tuple #[.int .u64 18446744073709551615, .iface 150 (.int .i64 1)]))) := fun h => PuE.bad _ 1 (.inl rfl) (fun h9 => by
          have := HA.out.few (by decide) (Nat.le_of_lt HKL.out) h9
          omega)
        obtain ⟨y, y8, yl, yx, LO⟩ := lowerX_any x c8
        have LO := Lib.hid LO
        clear hcc hkl hx
        by_cases hd : 48 ≤ x ∧ x ≤ 57
        · have f0 : ((x : Int) == 95) = false := by rw [beq_eq_false_iff_ne]; omega
          have f1 : decide ((48 : Int) ≤ (x : Int)) = true := decide_eq_true (by omega)
          have f2 : decide ((x : Int) ≤ 57) = true := decide_eq_true (by omega)
          have DG : Hid (Xml.digit 16 c = some (x - 48)) := by show _ = _; rw [X.out]; exact Xml.digit_num (by rw [← X.out]; exact hd) (by decide)
          have hd1 := hd.1
          have hd2 := hd.2
          clear hd yl yx
          by_cases hcut : a < 1152921504606846976
          · have iov : a * 16 < 18446744073709551616 := by omega
            have hov : a * 16 + ((x : Int) - 48) < 18446744073709551616 := by omega
            go_wp2
            go_round
            case rel => exact ⟨k + 1, a * 16 + ((x : Int) - 48), rfl, by first | rfl | (congr 1; omega), by first | rfl | (congr 1; omega), by omega, NX.out (x - 48) _ DG.out (by omega) (by omega) hov⟩
            case measure => simp [intOf]; omega
          · go_wp2
            go_ret2
            exact ⟨F1.out (by omega), B0.out⟩
        · have hnd := hd
          clear hd
          rcases (show x = 95 ∨ x < 48 ∨ (57 < x ∧ x ≠ 95) by omega) with h95 | h48 | h57
          · subst h95
            have LO : Hid (∀ u : World, Calls Tryz.prog 122 #[.int .u8 95] u fun e w' => e = .returned (.int .u8 (y : Int)) ∧ u = w') := LO.out
            by_cases hy1 : 97 ≤ y
            · have g1 : decide ((97 : Int) ≤ (y : Int)) = true := decide_eq_true (by omega)
              by_cases hy2 : y ≤ 122
              · have g2 : decide ((y : Int) ≤ 122) = true := decide_eq_true (by omega)
                have hyx := yl ⟨hy1, hy2⟩
                exact absurd hyx (by omega)
              · have g2 : decide ((y : Int) ≤ 122) = false := decide_eq_false (by omega)
                have DN : Hid (Xml.digit 16 c = none) := Xml.digit_none (by rw [← X.out]; omega) (by rw [← X.out]; omega) (by rw [← X.out]; omega) (by decide)
                clear yl yx hnd
                go_wp2_with fail
                refine (LO.out _).mono ?_
                rintro e w' ⟨rfl, rfl⟩
                go_wp2_with fail
                refine (LO.out _).mono ?_
                rintro e w' ⟨rfl, rfl⟩
                go_wp2
                go_ret2
                exact ⟨F2.out DN.out, B0.out⟩
            · have g1 : decide ((97 : Int) ≤ (y : Int)) = false := decide_eq_false (by omega)
              have DN : Hid (Xml.digit 16 c = none) := Xml.digit_none (by rw [← X.out]; omega) (by rw [← X.out]; omega) (by rw [← X.out]; omega) (by decide)
              clear yl yx hnd
              go_wp2_with fail
              refine (LO.out _).mono ?_
              rintro e w' ⟨rfl, rfl⟩
              go_wp2
              go_ret2
              exact ⟨F2.out DN.out, B0.out⟩
          · have f0 : ((x : Int) == 95) = false := by rw [beq_eq_false_iff_ne]; omega
            have f1 : decide ((48 : Int) ≤ (x : Int)) = false := decide_eq_false (by omega)
            by_cases hy1 : 97 ≤ y
            · have g1 : decide ((97 : Int) ≤ (y : Int)) = true := decide_eq_true (by omega)
              by_cases hy2 : y ≤ 122
              · have g2 : decide ((y : Int) ≤ 122) = true := decide_eq_true (by omega)
                have hyx := yl ⟨hy1, hy2⟩
                exact absurd hyx (by omega)
              · have g2 : decide ((y : Int) ≤ 122) = false := decide_eq_false (by omega)
                have DN : Hid (Xml.digit 16 c = none) := Xml.digit_none (by rw [← X.out]; omega) (by rw [← X.out]; omega) (by rw [← X.out]; omega) (by decide)
                clear yl yx hnd
                go_wp2_with fail
                refine (LO.out _).mono ?_
                rintro e w' ⟨rfl, rfl⟩
                go_wp2_with fail
                refine (LO.out _).mono ?_
                rintro e w' ⟨rfl, rfl⟩
                go_wp2
                go_ret2
                exact ⟨F2.out DN.out, B0.out⟩
            · have g1 : decide ((97 : Int) ≤ (y : Int)) = false := decide_eq_false (by omega)
              have DN : Hid (Xml.digit 16 c = none) := Xml.digit_none (by rw [← X.out]; omega) (by rw [← X.out]; omega) (by rw [← X.out]; omega) (by decide)
              clear yl yx hnd
              go_wp2_with fail
              refine (LO.out _).mono ?_
              rintro e w' ⟨rfl, rfl⟩
              go_wp2
              go_ret2
              exact ⟨F2.out DN.out, B0.out⟩
          · have f0 : ((x : Int) == 95) = false := by rw [beq_eq_false_iff_ne]; omega
            have f1 : decide ((48 : Int) ≤ (x : Int)) = true := decide_eq_true (by omega)
            have f2 : decide ((x : Int) ≤ 57) = false := decide_eq_false (by omega)
            by_cases hy1 : 97 ≤ y
            · have g1 : decide ((97 : Int) ≤ (y : Int)) = true := decide_eq_true (by omega)
              by_cases hy2 : y ≤ 122
              · have g2 : decide ((y : Int) ≤ 122) = true := decide_eq_true (by omega)
                have hyx := yl ⟨hy1, hy2⟩
                by_cases hy3 : y ≤ 102
                · have DG : Hid (Xml.digit 16 c = some (y - 97 + 10)) := by
                    show _ = _
                    rcases hyx with ⟨h1, h2, h3⟩ | ⟨h1, h2, h3⟩
                    · rw [Xml.digit_low (by rw [← X.out]; omega) (by rw [← X.out]; omega), ← X.out]
                      congr 1
                      omega
                    · rw [Xml.digit_up (by rw [← X.out]; omega) (by rw [← X.out]; omega), ← X.out]
                      congr 1
                      omega
                  clear yl yx hyx hnd
                  go_wp2_with fail
                  refine (LO.out _).mono ?_
                  rintro e w' ⟨rfl, rfl⟩
                  go_wp2_with fail
                  refine (LO.out _).mono ?_
                  rintro e w' ⟨rfl, rfl⟩
                  go_wp2_with fail
                  refine (LO.out _).mono ?_
                  rintro e w' ⟨rfl, rfl⟩
                  by_cases hcut : a < 1152921504606846976
                  · have iov : a * 16 < 18446744073709551616 := by omega
                    have hov : a * 16 + ((y : Int) - 97 + 10) < 18446744073709551616 := by omega
                    go_wp2
                    go_round
                    case rel => exact ⟨k + 1, a * 16 + ((y : Int) - 97 + 10), rfl, by first | rfl | (congr 1; omega), by first | rfl | (congr 1; omega), by omega, NX.out (y - 97 + 10) _ DG.out (by omega) (by omega) hov⟩
                    case measure => simp [intOf]; omega
                  · go_wp2
                    go_ret2
                    exact ⟨F1.out (by omega), B0.out⟩
                · have DN : Hid (Xml.digit 16 c = none) := Xml.digit_none (by rw [← X.out]; omega) (by rw [← X.out]; omega) (by rw [← X.out]; omega) (by decide)
                  clear yl yx hyx hnd
                  go_wp2_with fail
                  refine (LO.out _).mono ?_
                  rintro e w' ⟨rfl, rfl⟩
                  go_wp2_with fail
                  refine (LO.out _).mono ?_
                  rintro e w' ⟨rfl, rfl⟩
                  go_wp2_with fail
                  refine (LO.out _).mono ?_
                  rintro e w' ⟨rfl, rfl⟩
                  go_wp2
                  go_ret2
                  exact ⟨F2.out DN.out, B0.out⟩
              · have g2 : decide ((y : Int) ≤ 122) = false := decide_eq_false (by omega)
                have DN : Hid (Xml.digit 16 c = none) := Xml.digit_none (by rw [← X.out]; omega) (by rw [← X.out]; omega) (by rw [← X.out]; omega) (by decide)
                clear yl yx hnd
                go_wp2_with fail
                refine (LO.out _).mono ?_
                rintro e w' ⟨rfl, rfl⟩
                go_wp2_with fail
                refine (LO.out _).mono ?_
                rintro e w' ⟨rfl, rfl⟩
                go_wp2
                go_ret2
                exact ⟨F2.out DN.out, B0.out⟩
            · have g1 : decide ((97 : Int) ≤ (y : Int)) = false := decide_eq_false (by omega)
              have DN : Hid (Xml.digit 16 c = none) := Xml.digit_none (by rw [← X.out]; omega) (by rw [← X.out]; omega) (by rw [← X.out]; omega) (by decide)
              clear yl yx hnd
              go_wp2_with fail
              refine (LO.out _).mono ?_
              rintro e w' ⟨rfl, rfl⟩
              go_wp2
              go_ret2
              exact ⟨F2.out DN.out, B0.out⟩
      · obtain rfl : k = n := by omega
        have F : Hid (PuE 16 l (.returned (.tuple #[.int .u64 a, .nilIface]))) := PuE.good a HA.out.1 HA.out.2.1 (fun h9 => by
          obtain ⟨m, h1, h2, _⟩ := HA.out.2.2 h9
          rw [HN.out, List.take_length] at h1
          exact ⟨NE.out, m, h1, h2⟩)
        go_wp2
        go_ret2
        exact ⟨F.out, B0.out⟩
end Go.Proofs.YteefjmdallpihaaGreatDoor
