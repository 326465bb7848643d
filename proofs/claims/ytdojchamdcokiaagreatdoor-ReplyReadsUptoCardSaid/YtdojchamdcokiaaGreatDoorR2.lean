/-
  reply: what the document's token answers.
-/
import Derived.Test.YtdojchamdcokiaaGreatDoorR1
namespace Go.Proofs.YtdojchamdcokiaaGreatDoor
open Go.RowKit Reply

theorem at_list (s : ByteArray) (k : Nat) (hk : k < s.size) : (s[k]'hk) = s.data.toList.getD k 0 := S_at s.data.toList k hk
theorem size_list (s : ByteArray) : s.data.toList.length = s.size := Array.length_toList
theorem tch_at : ∀ k (hk : k < 15), ((⟨#[33, 35, 36, 37, 38, 39, 42, 43, 45, 46, 94, 95, 96, 124, 126]⟩ : ByteArray)[k]'hk) = tchars.getD k 0 := by
  intro k hk
  have : k = 0 ∨ k = 1 ∨ k = 2 ∨ k = 3 ∨ k = 4 ∨ k = 5 ∨ k = 6 ∨ k = 7 ∨ k = 8 ∨ k = 9 ∨ k = 10 ∨ k = 11 ∨ k = 12 ∨ k = 13 ∨ k = 14 := by omega
  rcases this with rfl | rfl | rfl | rfl | rfl | rfl | rfl | rfl | rfl | rfl | rfl | rfl | rfl | rfl | rfl <;> rfl
theorem tokB_yes {c : UInt8} {x : Nat} (hx : x = c.toNat) (h : (48 ≤ x ∧ x ≤ 57) ∨ (65 ≤ x ∧ x ≤ 90) ∨ (97 ≤ x ∧ x ≤ 122)) : tokB c = true := by
  unfold tokB
  subst hx
  simp only [Bool.or_eq_true, decide_eq_true_eq]
  omega
theorem tokB_else {c : UInt8} {x : Nat} (hx : x = c.toNat) (h : ¬ ((48 ≤ x ∧ x ≤ 57) ∨ (65 ≤ x ∧ x ≤ 90) ∨ (97 ≤ x ∧ x ≤ 122))) : tokB c = tchars.contains c := by
  unfold tokB
  subst hx
  rw [decide_eq_false (by omega), decide_eq_false (by omega), decide_eq_false (by omega)]
  rfl
theorem tok_bad {l : B} {c : UInt8} (hm : c ∈ l) (h : tokB c = false) : tokn l = false := by
  unfold tokn
  have : l.all tokB = false := by rw [List.all_eq_false]; exact ⟨c, hm, by simp [h]⟩
  rw [this]
  rfl
theorem tok_all {l : B} (h : ∀ c ∈ l, tokB c = true) : tokn l = !decide (l = []) := by
  unfold tokn
  have : l.all tokB = true := by rw [List.all_eq_true]; exact h
  rw [this, Bool.true_and]
  cases l <;> rfl
theorem has_next {l : B} {k : Nat} {c : UInt8} (h : k < l.length) : (l.take (k + 1)).contains c = ((l.take k).contains c || (l.getD k 0 == c)) := by
  rw [take_nextU h, List.contains_append]
  rw [List.contains_cons, List.contains_nil, Bool.or_false]
  congr 1
  rw [Bool.eq_iff_iff, beq_iff_eq, beq_iff_eq]
  exact eq_comm

set_option maxRecDepth 100000 in
set_option maxHeartbeats 4000000 in
theorem rtoken_any (w : World) (s : ByteArray) (hs : s.size ≤ 4294967296) :
    Calls Tryz.prog 23 #[.string s] w fun e w' => e = .returned (.bool (tokn s.data.toList)) ∧ w = w' := by
  have HA : Hid (∀ k (hk : k < s.size), (s[k]'hk) = s.data.toList.getD k 0) := fun k hk => at_list s k hk
  have HL : Hid (s.data.toList.length = s.size) := size_list s
  go_enter Tryz.func23, Tryz.ntmps23
  go_wp2
  go_loop [3, 4, 5, 6] (fun i _ _ _ => ∃ k : Nat, k ≤ s.size ∧ i = .int .i64 k ∧ Hid (∀ c ∈ s.data.toList.take k, tokB c = true)) (fun i _ _ _ => s.size - (intOf i).toNat)
  case atStart => exact ⟨0, by omega, rfl, by show ∀ c ∈ _, _; simp⟩
  case round =>
    obtain ⟨k, hk, rfl, hn⟩ := hrel
    by_cases hlt : k < s.size
    · obtain ⟨c, hc⟩ : ∃ c, c = (s[k]'hlt) := ⟨_, rfl⟩
      obtain ⟨x, hx⟩ : ∃ x, x = c.toNat := ⟨_, rfl⟩
      have hxe : ((s[k]'hlt).toNat : Int) = (x : Int) := by rw [hx, hc]
      have C := Lib.hid (hc.trans (HA.out k hlt))
      have X := Lib.hid hx
      have hx8 : x < 256 := by rw [hx]; exact c.toNat_lt
      have MEM : Hid (c ∈ s.data.toList) := by show c ∈ _; rw [C.out]; exact getD_memU (by rw [HL.out]; exact hlt)
      have NX : tokB c = true → Hid (∀ d ∈ s.data.toList.take (k + 1), tokB d = true) := fun ht => by
        show ∀ d ∈ _, _
        rw [take_nextU (by rw [HL.out]; exact hlt), ← C.out]
        intro d hd
        rcases List.mem_append.1 hd with hd | hd
        · exact hn.out d hd
        · have : d = c := by simpa using hd
          rw [this, ht]
      have hlz : (k : Int) < (s.size : Int) := by omega
      clear hc hx
      have parts : x < 48 ∨ (48 ≤ x ∧ x ≤ 57) ∨ (58 ≤ x ∧ x ≤ 64) ∨ (65 ≤ x ∧ x ≤ 90) ∨ (91 ≤ x ∧ x ≤ 96) ∨ (97 ≤ x ∧ x ≤ 122) ∨ 123 ≤ x := by omega
      rcases parts with hp | hp | hp | hp | hp | hp | hp
      · have p1 := hp
        have g97 : decide ((97 : Int) ≤ (x : Int)) = false := by exact decide_eq_false (by omega)
        have g65 : decide ((65 : Int) ≤ (x : Int)) = false := by exact decide_eq_false (by omega)
        have g48 : decide ((48 : Int) ≤ (x : Int)) = false := by exact decide_eq_false (by omega)
        have l122 : decide ((x : Int) ≤ 122) = true := by exact decide_eq_true (by omega)
        have l90 : decide ((x : Int) ≤ 90) = true := by exact decide_eq_true (by omega)
        have l57 : decide ((x : Int) ≤ 57) = true := by exact decide_eq_true (by omega)
        have TE := Lib.hid (tokB_else X.out (by omega))
        clear p1
        go_wp2
        go_loop [5, 6] (fun v j => ∃ q : Nat, q ≤ 15 ∧ j = .int .i64 q ∧ v = .bool ((tchars.take q).contains c)) (fun _ j => 15 - (intOf j).toNat)
        case atStart => exact ⟨0, by omega, rfl, rfl⟩
        case round =>
          obtain ⟨q, hq, rfl, rfl⟩ := hrel
          by_cases hq15 : q < 15
          · have hqz : (q : Int) < 15 := by omega
            have hnx := Lib.hid (has_next (l := tchars) (k := q) (c := c) (by exact hq15))
            have ht := tch_at q hq15
            cases hb : (tchars.take q).contains c
            · rw [hb, Bool.false_or] at hnx
              by_cases he : tchars.getD q 0 = c
              · have e1 : ((((⟨#[33, 35, 36, 37, 38, 39, 42, 43, 45, 46, 94, 95, 96, 124, 126]⟩ : ByteArray)[q]'hq15).toNat : Int) == (x : Int)) = true := by rw [ht, he, ← X.out]; simp
                have E : Hid ((tchars.take (q + 1)).contains c = true) := by show _ = _; rw [hnx.out, he]; simp
                clear hb ht he hnx
                go_wp2
                go_round
                case rel => exact ⟨q + 1, by omega, by go_num, by rw [E.out]⟩
                case measure => simp [intOf]; omega
              · have e1 : ((((⟨#[33, 35, 36, 37, 38, 39, 42, 43, 45, 46, 94, 95, 96, 124, 126]⟩ : ByteArray)[q]'hq15).toNat : Int) == (x : Int)) = false := by
                  rw [ht, X.out, beq_eq_false_iff_ne]
                  intro h
                  exact he (UInt8.toNat_inj.1 (by omega))
                have E : Hid ((tchars.take (q + 1)).contains c = false) := by show _ = _; rw [hnx.out]; exact beq_eq_false_iff_ne.2 he
                clear hb ht he hnx
                go_wp2
                go_round
                case rel => exact ⟨q + 1, by omega, by go_num, by rw [E.out]⟩
                case measure => simp [intOf]; omega
            · have E : Hid ((tchars.take (q + 1)).contains c = true) := by show _ = _; rw [hnx.out, hb]; rfl
              clear hb ht hnx
              go_wp2
              go_round
              case rel => exact ⟨q + 1, by omega, by go_num, by rw [E.out]⟩
              case measure => simp [intOf]; omega
          · obtain rfl : q = 15 := by omega
            have E : Hid ((tchars.take 15).contains c = tokB c) := TE.out.symm
            obtain ⟨tb, htb⟩ : ∃ tb, tb = (tchars.take 15).contains c := ⟨_, rfl⟩
            rw [← htb] at E ⊢
            clear htb
            cases tb
            · go_wp2
              go_ret
              exact ⟨ret_bool (tok_bad MEM.out E.out.symm).symm, rfl⟩
            · have N := NX E.out.symm
              clear NX
              go_wp2
              go_round
              case rel => exact ⟨k + 1, by omega, by go_num, N⟩
              case measure => simp [intOf]; omega
      · obtain ⟨p1, p2⟩ := hp
        have g97 : decide ((97 : Int) ≤ (x : Int)) = false := by exact decide_eq_false (by omega)
        have g65 : decide ((65 : Int) ≤ (x : Int)) = false := by exact decide_eq_false (by omega)
        have g48 : decide ((48 : Int) ≤ (x : Int)) = true := by exact decide_eq_true (by omega)
        have l122 : decide ((x : Int) ≤ 122) = true := by exact decide_eq_true (by omega)
        have l90 : decide ((x : Int) ≤ 90) = true := by exact decide_eq_true (by omega)
        have l57 : decide ((x : Int) ≤ 57) = true := by exact decide_eq_true (by omega)
        have N := NX (tokB_yes X.out (by omega))
        clear NX
        go_wp2
        go_loop [5, 6] (fun v j => ∃ q : Nat, q ≤ 15 ∧ j = .int .i64 q ∧ v = .bool true) (fun _ j => 15 - (intOf j).toNat)
        case atStart => exact ⟨0, by omega, rfl, rfl⟩
        case round =>
          obtain ⟨q, hq, rfl, rfl⟩ := hrel
          by_cases hq15 : q < 15
          · go_wp2
            go_round
            case rel => exact ⟨q + 1, by omega, by go_num, rfl⟩
            case measure => simp [intOf]; omega
          · obtain rfl : q = 15 := by omega
            go_wp2
            go_round
            case rel => exact ⟨k + 1, by omega, by go_num, N⟩
            case measure => simp [intOf]; omega
      · obtain ⟨p1, p2⟩ := hp
        have g97 : decide ((97 : Int) ≤ (x : Int)) = false := by exact decide_eq_false (by omega)
        have g65 : decide ((65 : Int) ≤ (x : Int)) = false := by exact decide_eq_false (by omega)
        have g48 : decide ((48 : Int) ≤ (x : Int)) = true := by exact decide_eq_true (by omega)
        have l122 : decide ((x : Int) ≤ 122) = true := by exact decide_eq_true (by omega)
        have l90 : decide ((x : Int) ≤ 90) = true := by exact decide_eq_true (by omega)
        have l57 : decide ((x : Int) ≤ 57) = false := by exact decide_eq_false (by omega)
        have TE := Lib.hid (tokB_else X.out (by omega))
        clear p1 p2
        go_wp2
        go_loop [5, 6] (fun v j => ∃ q : Nat, q ≤ 15 ∧ j = .int .i64 q ∧ v = .bool ((tchars.take q).contains c)) (fun _ j => 15 - (intOf j).toNat)
        case atStart => exact ⟨0, by omega, rfl, rfl⟩
        case round =>
          obtain ⟨q, hq, rfl, rfl⟩ := hrel
          by_cases hq15 : q < 15
          · have hqz : (q : Int) < 15 := by omega
            have hnx := Lib.hid (has_next (l := tchars) (k := q) (c := c) (by exact hq15))
            have ht := tch_at q hq15
            cases hb : (tchars.take q).contains c
            · rw [hb, Bool.false_or] at hnx
              by_cases he : tchars.getD q 0 = c
              · have e1 : ((((⟨#[33, 35, 36, 37, 38, 39, 42, 43, 45, 46, 94, 95, 96, 124, 126]⟩ : ByteArray)[q]'hq15).toNat : Int) == (x : Int)) = true := by rw [ht, he, ← X.out]; simp
                have E : Hid ((tchars.take (q + 1)).contains c = true) := by show _ = _; rw [hnx.out, he]; simp
                clear hb ht he hnx
                go_wp2
                go_round
                case rel => exact ⟨q + 1, by omega, by go_num, by rw [E.out]⟩
                case measure => simp [intOf]; omega
              · have e1 : ((((⟨#[33, 35, 36, 37, 38, 39, 42, 43, 45, 46, 94, 95, 96, 124, 126]⟩ : ByteArray)[q]'hq15).toNat : Int) == (x : Int)) = false := by
                  rw [ht, X.out, beq_eq_false_iff_ne]
                  intro h
                  exact he (UInt8.toNat_inj.1 (by omega))
                have E : Hid ((tchars.take (q + 1)).contains c = false) := by show _ = _; rw [hnx.out]; exact beq_eq_false_iff_ne.2 he
                clear hb ht he hnx
                go_wp2
                go_round
                case rel => exact ⟨q + 1, by omega, by go_num, by rw [E.out]⟩
                case measure => simp [intOf]; omega
            · have E : Hid ((tchars.take (q + 1)).contains c = true) := by show _ = _; rw [hnx.out, hb]; rfl
              clear hb ht hnx
              go_wp2
              go_round
              case rel => exact ⟨q + 1, by omega, by go_num, by rw [E.out]⟩
              case measure => simp [intOf]; omega
          · obtain rfl : q = 15 := by omega
            have E : Hid ((tchars.take 15).contains c = tokB c) := TE.out.symm
            obtain ⟨tb, htb⟩ : ∃ tb, tb = (tchars.take 15).contains c := ⟨_, rfl⟩
            rw [← htb] at E ⊢
            clear htb
            cases tb
            · go_wp2
              go_ret
              exact ⟨ret_bool (tok_bad MEM.out E.out.symm).symm, rfl⟩
            · have N := NX E.out.symm
              clear NX
              go_wp2
              go_round
              case rel => exact ⟨k + 1, by omega, by go_num, N⟩
              case measure => simp [intOf]; omega
      · obtain ⟨p1, p2⟩ := hp
        have g97 : decide ((97 : Int) ≤ (x : Int)) = false := by exact decide_eq_false (by omega)
        have g65 : decide ((65 : Int) ≤ (x : Int)) = true := by exact decide_eq_true (by omega)
        have g48 : decide ((48 : Int) ≤ (x : Int)) = true := by exact decide_eq_true (by omega)
        have l122 : decide ((x : Int) ≤ 122) = true := by exact decide_eq_true (by omega)
        have l90 : decide ((x : Int) ≤ 90) = true := by exact decide_eq_true (by omega)
        have l57 : decide ((x : Int) ≤ 57) = false := by exact decide_eq_false (by omega)
        have N := NX (tokB_yes X.out (by omega))
        clear NX
        go_wp2
        go_loop [5, 6] (fun v j => ∃ q : Nat, q ≤ 15 ∧ j = .int .i64 q ∧ v = .bool true) (fun _ j => 15 - (intOf j).toNat)
        case atStart => exact ⟨0, by omega, rfl, rfl⟩
        case round =>
          obtain ⟨q, hq, rfl, rfl⟩ := hrel
          by_cases hq15 : q < 15
          · go_wp2
            go_round
            case rel => exact ⟨q + 1, by omega, by go_num, rfl⟩
            case measure => simp [intOf]; omega
          · obtain rfl : q = 15 := by omega
            go_wp2
            go_round
            case rel => exact ⟨k + 1, by omega, by go_num, N⟩
            case measure => simp [intOf]; omega
      · obtain ⟨p1, p2⟩ := hp
        have g97 : decide ((97 : Int) ≤ (x : Int)) = false := by exact decide_eq_false (by omega)
        have g65 : decide ((65 : Int) ≤ (x : Int)) = true := by exact decide_eq_true (by omega)
        have g48 : decide ((48 : Int) ≤ (x : Int)) = true := by exact decide_eq_true (by omega)
        have l122 : decide ((x : Int) ≤ 122) = true := by exact decide_eq_true (by omega)
        have l90 : decide ((x : Int) ≤ 90) = false := by exact decide_eq_false (by omega)
        have l57 : decide ((x : Int) ≤ 57) = false := by exact decide_eq_false (by omega)
        have TE := Lib.hid (tokB_else X.out (by omega))
        clear p1 p2
        go_wp2
        go_loop [5, 6] (fun v j => ∃ q : Nat, q ≤ 15 ∧ j = .int .i64 q ∧ v = .bool ((tchars.take q).contains c)) (fun _ j => 15 - (intOf j).toNat)
        case atStart => exact ⟨0, by omega, rfl, rfl⟩
        case round =>
          obtain ⟨q, hq, rfl, rfl⟩ := hrel
          by_cases hq15 : q < 15
          · have hqz : (q : Int) < 15 := by omega
            have hnx := Lib.hid (has_next (l := tchars) (k := q) (c := c) (by exact hq15))
            have ht := tch_at q hq15
            cases hb : (tchars.take q).contains c
            · rw [hb, Bool.false_or] at hnx
              by_cases he : tchars.getD q 0 = c
              · have e1 : ((((⟨#[33, 35, 36, 37, 38, 39, 42, 43, 45, 46, 94, 95, 96, 124, 126]⟩ : ByteArray)[q]'hq15).toNat : Int) == (x : Int)) = true := by rw [ht, he, ← X.out]; simp
                have E : Hid ((tchars.take (q + 1)).contains c = true) := by show _ = _; rw [hnx.out, he]; simp
                clear hb ht he hnx
                go_wp2
                go_round
                case rel => exact ⟨q + 1, by omega, by go_num, by rw [E.out]⟩
                case measure => simp [intOf]; omega
              · have e1 : ((((⟨#[33, 35, 36, 37, 38, 39, 42, 43, 45, 46, 94, 95, 96, 124, 126]⟩ : ByteArray)[q]'hq15).toNat : Int) == (x : Int)) = false := by
                  rw [ht, X.out, beq_eq_false_iff_ne]
                  intro h
                  exact he (UInt8.toNat_inj.1 (by omega))
                have E : Hid ((tchars.take (q + 1)).contains c = false) := by show _ = _; rw [hnx.out]; exact beq_eq_false_iff_ne.2 he
                clear hb ht he hnx
                go_wp2
                go_round
                case rel => exact ⟨q + 1, by omega, by go_num, by rw [E.out]⟩
                case measure => simp [intOf]; omega
            · have E : Hid ((tchars.take (q + 1)).contains c = true) := by show _ = _; rw [hnx.out, hb]; rfl
              clear hb ht hnx
              go_wp2
              go_round
              case rel => exact ⟨q + 1, by omega, by go_num, by rw [E.out]⟩
              case measure => simp [intOf]; omega
          · obtain rfl : q = 15 := by omega
            have E : Hid ((tchars.take 15).contains c = tokB c) := TE.out.symm
            obtain ⟨tb, htb⟩ : ∃ tb, tb = (tchars.take 15).contains c := ⟨_, rfl⟩
            rw [← htb] at E ⊢
            clear htb
            cases tb
            · go_wp2
              go_ret
              exact ⟨ret_bool (tok_bad MEM.out E.out.symm).symm, rfl⟩
            · have N := NX E.out.symm
              clear NX
              go_wp2
              go_round
              case rel => exact ⟨k + 1, by omega, by go_num, N⟩
              case measure => simp [intOf]; omega
      · obtain ⟨p1, p2⟩ := hp
        have g97 : decide ((97 : Int) ≤ (x : Int)) = true := by exact decide_eq_true (by omega)
        have g65 : decide ((65 : Int) ≤ (x : Int)) = true := by exact decide_eq_true (by omega)
        have g48 : decide ((48 : Int) ≤ (x : Int)) = true := by exact decide_eq_true (by omega)
        have l122 : decide ((x : Int) ≤ 122) = true := by exact decide_eq_true (by omega)
        have l90 : decide ((x : Int) ≤ 90) = false := by exact decide_eq_false (by omega)
        have l57 : decide ((x : Int) ≤ 57) = false := by exact decide_eq_false (by omega)
        have N := NX (tokB_yes X.out (by omega))
        clear NX
        go_wp2
        go_loop [5, 6] (fun v j => ∃ q : Nat, q ≤ 15 ∧ j = .int .i64 q ∧ v = .bool true) (fun _ j => 15 - (intOf j).toNat)
        case atStart => exact ⟨0, by omega, rfl, rfl⟩
        case round =>
          obtain ⟨q, hq, rfl, rfl⟩ := hrel
          by_cases hq15 : q < 15
          · go_wp2
            go_round
            case rel => exact ⟨q + 1, by omega, by go_num, rfl⟩
            case measure => simp [intOf]; omega
          · obtain rfl : q = 15 := by omega
            go_wp2
            go_round
            case rel => exact ⟨k + 1, by omega, by go_num, N⟩
            case measure => simp [intOf]; omega
      · have p1 := hp
        have g97 : decide ((97 : Int) ≤ (x : Int)) = true := by exact decide_eq_true (by omega)
        have g65 : decide ((65 : Int) ≤ (x : Int)) = true := by exact decide_eq_true (by omega)
        have g48 : decide ((48 : Int) ≤ (x : Int)) = true := by exact decide_eq_true (by omega)
        have l122 : decide ((x : Int) ≤ 122) = false := by exact decide_eq_false (by omega)
        have l90 : decide ((x : Int) ≤ 90) = false := by exact decide_eq_false (by omega)
        have l57 : decide ((x : Int) ≤ 57) = false := by exact decide_eq_false (by omega)
        have TE := Lib.hid (tokB_else X.out (by omega))
        clear p1
        go_wp2
        go_loop [5, 6] (fun v j => ∃ q : Nat, q ≤ 15 ∧ j = .int .i64 q ∧ v = .bool ((tchars.take q).contains c)) (fun _ j => 15 - (intOf j).toNat)
        case atStart => exact ⟨0, by omega, rfl, rfl⟩
        case round =>
          obtain ⟨q, hq, rfl, rfl⟩ := hrel
          by_cases hq15 : q < 15
          · have hqz : (q : Int) < 15 := by omega
            have hnx := Lib.hid (has_next (l := tchars) (k := q) (c := c) (by exact hq15))
            have ht := tch_at q hq15
            cases hb : (tchars.take q).contains c
            · rw [hb, Bool.false_or] at hnx
              by_cases he : tchars.getD q 0 = c
              · have e1 : ((((⟨#[33, 35, 36, 37, 38, 39, 42, 43, 45, 46, 94, 95, 96, 124, 126]⟩ : ByteArray)[q]'hq15).toNat : Int) == (x : Int)) = true := by rw [ht, he, ← X.out]; simp
                have E : Hid ((tchars.take (q + 1)).contains c = true) := by show _ = _; rw [hnx.out, he]; simp
                clear hb ht he hnx
                go_wp2
                go_round
                case rel => exact ⟨q + 1, by omega, by go_num, by rw [E.out]⟩
                case measure => simp [intOf]; omega
              · have e1 : ((((⟨#[33, 35, 36, 37, 38, 39, 42, 43, 45, 46, 94, 95, 96, 124, 126]⟩ : ByteArray)[q]'hq15).toNat : Int) == (x : Int)) = false := by
                  rw [ht, X.out, beq_eq_false_iff_ne]
                  intro h
                  exact he (UInt8.toNat_inj.1 (by omega))
                have E : Hid ((tchars.take (q + 1)).contains c = false) := by show _ = _; rw [hnx.out]; exact beq_eq_false_iff_ne.2 he
                clear hb ht he hnx
                go_wp2
                go_round
                case rel => exact ⟨q + 1, by omega, by go_num, by rw [E.out]⟩
                case measure => simp [intOf]; omega
            · have E : Hid ((tchars.take (q + 1)).contains c = true) := by show _ = _; rw [hnx.out, hb]; rfl
              clear hb ht hnx
              go_wp2
              go_round
              case rel => exact ⟨q + 1, by omega, by go_num, by rw [E.out]⟩
              case measure => simp [intOf]; omega
          · obtain rfl : q = 15 := by omega
            have E : Hid ((tchars.take 15).contains c = tokB c) := TE.out.symm
            obtain ⟨tb, htb⟩ : ∃ tb, tb = (tchars.take 15).contains c := ⟨_, rfl⟩
            rw [← htb] at E ⊢
            clear htb
            cases tb
            · go_wp2
              go_ret
              exact ⟨ret_bool (tok_bad MEM.out E.out.symm).symm, rfl⟩
            · have N := NX E.out.symm
              clear NX
              go_wp2
              go_round
              case rel => exact ⟨k + 1, by omega, by go_num, N⟩
              case measure => simp [intOf]; omega
    · obtain rfl : k = s.size := by omega
      have F : Hid (tokn s.data.toList = !decide (s.data.toList = [])) := tok_all (by have := hn.out; rwa [← HL.out, List.take_length] at this)
      by_cases h0 : s.size = 0
      · have Z : Hid (s.data.toList = []) := List.eq_nil_of_length_eq_zero (by rw [HL.out, h0])
        have h0z : ¬ (0 : Int) < (s.size : Int) := by omega
        have h0n : ¬ 0 < s.size := by omega
        clear h0
        go_wp2
        go_ret
        exact ⟨ret_bool (by rw [F.out, Z.out]; simp), rfl⟩
      · have Z : Hid (decide (s.data.toList = []) = false) := decide_eq_false (fun h => h0 (by rw [← HL.out, h]; rfl))
        have h0z : (0 : Int) < (s.size : Int) := by omega
        have h0n : 0 < s.size := by omega
        clear h0
        go_wp2
        go_ret
        exact ⟨ret_bool (by rw [F.out, Z.out]; simp), rfl⟩
end Go.Proofs.YtdojchamdcokiaaGreatDoor
