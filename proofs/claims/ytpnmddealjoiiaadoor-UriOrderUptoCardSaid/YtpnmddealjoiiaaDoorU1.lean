/-
  uri: what the document's functions over strings answer: has, visible, Hex, rune1, UTF8.
-/
import Derived.Test.YtpnmddealjoiiaaDoorRows
import Derived.Test.YtpnmddealjoiiaaDoorMem
import Derived.Test.YtpnmddealjoiiaaDoorUriM
import Derived.WalkKit
import Derived.WalkSpells
import Derived.WalkLawsBesides
import Derived.Lib.Hide
import Derived.Outline
import Derived.Lib.LazyBuf
import Derived.Laws.MakeOwn
import Derived.BigQuiet
import Derived.Deep.QuietTactic
namespace Go.Proofs.YtpnmddealjoiiaaDoor
open Go.RowKit Uri

theorem ret_i64 {a b : Int} (h : a = b) : Ending.returned (.int .i64 a) = .returned (.int .i64 b) := by rw [h]
theorem ret_bool {a b : Bool} (h : a = b) : Ending.returned (.bool a) = .returned (.bool b) := by rw [h]
theorem nat_at (s : ByteArray) (k : Nat) (hk : k < s.size) : (s[k]'hk).toNat = (nums s).getD k 0 := by
  have h3 : k < s.data.toList.length := by rw [Array.length_toList]; exact hk
  unfold nums
  simp only [List.getD_eq_getElem?_getD, List.getElem?_map, List.getElem?_eq_getElem h3, Option.map_some]
  rfl
theorem take_next {l : List Nat} {k : Nat} (h : k < l.length) : l.take (k + 1) = l.take k ++ [l.getD k 0] := by
  rw [List.take_add_one, List.getD_eq_getElem?_getD, List.getElem?_eq_getElem h]
  rfl
theorem getD_mem {l : List Nat} {k : Nat} (h : k < l.length) : l.getD k 0 ∈ l := by
  rw [List.getD_eq_getElem?_getD, List.getElem?_eq_getElem h]
  exact List.getElem_mem h
theorem getD_lt (s : ByteArray) (k : Nat) : (nums s).getD k 0 < 256 := by
  rcases Nat.lt_or_ge k (nums s).length with h | h
  · exact nums_lt s _ (getD_mem h)
  · rw [List.getD_eq_getElem?_getD, List.getElem?_eq_none h]; show (0 : Nat) < 256; omega
/-- A string's bytes are those of a list. -/
theorem ext_nums {s t : ByteArray} (h : nums s = nums t) : s = t := by rw [← strB_nums s, ← strB_nums t, h]
theorem nums_extract (s : ByteArray) (a b : Nat) : nums (s.extract a b) = ((nums s).drop a).take (b - a) := by
  unfold nums
  rw [ByteArray.data_extract, Array.toList_extract, List.extract_eq_take_drop, List.map_take, List.map_drop]
theorem nums_drop (s : ByteArray) (a : Nat) : nums (s.extract a s.size) = (nums s).drop a := by
  rw [nums_extract, List.take_of_length_le]
  rw [List.length_drop, nums_length]
  exact Nat.le_refl _
theorem nums_take (s : ByteArray) (b : Nat) : nums (s.extract 0 b) = (nums s).take b := by
  rw [nums_extract, List.drop_zero]
  rfl

set_option maxHeartbeats 400000 in
theorem has_any (w : World) (s : ByteArray) (c : Nat) (_hc : c < 256) (hs : s.size ≤ 4294967296) :
    Calls Tryd.prog 27 #[.string s, .int .u8 (c : Int)] w fun e w' => e = .returned (.bool (decide (c ∈ nums s))) ∧ w = w' := by
  have HA : Hid (∀ k (hk : k < s.size), (s[k]'hk).toNat = (nums s).getD k 0) := fun k hk => nat_at s k hk
  have HL : Hid ((nums s).length = s.size) := nums_length s
  go_enter Tryd.func27, Tryd.ntmps27
  go_wp2
  go_loop [5] (fun i => ∃ k : Nat, k ≤ s.size ∧ i = .int .i64 k ∧ Hid (c ∉ (nums s).take k)) (fun i => s.size - (intOf i).toNat)
  case atStart => exact ⟨0, by omega, rfl, by show c ∉ _; simp⟩
  case round =>
    obtain ⟨k, hk, rfl, hn⟩ := hrel
    by_cases hlt : k < s.size
    · obtain ⟨x, hx⟩ : ∃ x, x = (s[k]'hlt).toNat := ⟨_, rfl⟩
      have X : Hid (x = (nums s).getD k 0) := hx.trans (HA.out k hlt)
      by_cases he : x = c
      · have e1 : ((x : Int) == (c : Int)) = true := by simp [he]
        rw [hx] at e1
        have F : Hid (decide (c ∈ nums s) = true) := decide_eq_true (by rw [← he, X.out]; exact getD_mem (by rw [HL.out]; exact hlt))
        clear hx he
        go_wp2
        go_ret
        exact ⟨ret_bool F.out.symm, rfl⟩
      · have e1 : ((x : Int) == (c : Int)) = false := by simp; omega
        have N : Hid (c ∉ (nums s).take (k + 1)) := by
          show c ∉ _
          rw [take_next (by rw [HL.out]; exact hlt), List.mem_append, not_or]
          refine ⟨hn.out, ?_⟩
          rw [← X.out]
          simpa using fun h => he h.symm
        rw [hx] at e1
        clear hx he
        go_wp2
        go_round
        case rel => exact ⟨k + 1, by omega, by go_num, N⟩
        case measure => simp [intOf]; omega
    · obtain rfl : k = s.size := by omega
      have F : Hid (decide (c ∈ nums s) = false) := decide_eq_false (by have := hn.out; rwa [← HL.out, List.take_length] at this)
      go_wp2
      go_ret
      exact ⟨ret_bool F.out.symm, rfl⟩
theorem visible_has (l : List Nat) : visible l = ((l.all fun x => decide (33 ≤ x ∧ x ≤ 126)) && (!decide (63 ∈ l) && !decide (35 ∈ l))) := by
  unfold visible vis
  rw [Bool.eq_iff_iff]
  simp only [Bool.and_eq_true, List.all_eq_true, decide_eq_true_eq, Bool.not_eq_true', decide_eq_false_iff_not]
  constructor
  · intro h
    exact ⟨fun x hx => ⟨(h x hx).1, (h x hx).2.1⟩, fun hm => (h 63 hm).2.2.1 rfl, fun hm => (h 35 hm).2.2.2 rfl⟩
  · rintro ⟨h1, h2, h3⟩ x hx
    refine ⟨(h1 x hx).1, (h1 x hx).2, fun e => h2 (e ▸ hx), fun e => h3 (e ▸ hx)⟩
set_option maxHeartbeats 800000 in
theorem visible_any (w : World) (s : ByteArray) (hs : s.size ≤ 4294967296) :
    Calls Tryd.prog 23 #[.string s] w fun e w' => e = .returned (.bool (visible (nums s))) ∧ w = w' := by
  have HA : Hid (∀ k (hk : k < s.size), (s[k]'hk).toNat = (nums s).getD k 0) := fun k hk => nat_at s k hk
  have HL : Hid ((nums s).length = s.size) := nums_length s
  have HV := Lib.hid (visible_has (nums s))
  have H63 := Lib.hid (has_any w s 63 (by omega) hs)
  have H35 := Lib.hid (has_any w s 35 (by omega) hs)
  go_enter Tryd.func23, Tryd.ntmps23
  go_wp2
  go_loop [3] (fun i => ∃ k : Nat, k ≤ s.size ∧ i = .int .i64 k ∧ Hid (∀ x ∈ (nums s).take k, 33 ≤ x ∧ x ≤ 126)) (fun i => s.size - (intOf i).toNat)
  case atStart => exact ⟨0, by omega, rfl, by show ∀ x ∈ _, _; simp⟩
  case round =>
    obtain ⟨k, hk, rfl, hn⟩ := hrel
    by_cases hlt : k < s.size
    · obtain ⟨x, hx⟩ : ∃ x, x = (s[k]'hlt).toNat := ⟨_, rfl⟩
      have X : Hid (x = (nums s).getD k 0) := hx.trans (HA.out k hlt)
      have bad : ¬ (33 ≤ x ∧ x ≤ 126) → Hid (visible (nums s) = false) := fun hb => by
        show visible (nums s) = false
        rw [HV.out]
        have : ((nums s).all fun x => decide (33 ≤ x ∧ x ≤ 126)) = false := by
          rw [List.all_eq_false]
          exact ⟨x, by rw [X.out]; exact getD_mem (by rw [HL.out]; exact hlt), by simpa using hb⟩
        rw [this]
        rfl
      by_cases h33 : x < 33
      · have F := bad (by omega)
        have e1 : decide (((s[k]'hlt).toNat : Int) < 33) = true := by rw [← hx]; simp; omega
        clear hx bad
        go_wp2
        go_ret
        exact ⟨ret_bool F.out.symm, rfl⟩
      · have e1 : decide (((s[k]'hlt).toNat : Int) < 33) = false := by rw [← hx]; simp; omega
        by_cases h126 : 126 < x
        · have F := bad (by omega)
          have e2 : decide (126 < ((s[k]'hlt).toNat : Int)) = true := by rw [← hx]; simp; omega
          clear hx bad
          go_wp2
          go_ret
          exact ⟨ret_bool F.out.symm, rfl⟩
        · have e2 : decide (126 < ((s[k]'hlt).toNat : Int)) = false := by rw [← hx]; simp; omega
          have N : Hid (∀ x ∈ (nums s).take (k + 1), 33 ≤ x ∧ x ≤ 126) := by
            show ∀ x ∈ _, _
            rw [take_next (by rw [HL.out]; exact hlt)]
            intro y hy
            rcases List.mem_append.1 hy with hy | hy
            · exact hn.out y hy
            · have : y = x := by rw [X.out]; simpa using hy
              omega
          clear hx bad
          go_wp2
          go_round
          case rel => exact ⟨k + 1, by omega, by go_num, N⟩
          case measure => simp [intOf]; omega
    · obtain rfl : k = s.size := by omega
      have F : Hid (visible (nums s) = (!decide (63 ∈ nums s) && !decide (35 ∈ nums s))) := by
        show visible (nums s) = _
        rw [HV.out]
        have : ((nums s).all fun x => decide (33 ≤ x ∧ x ≤ 126)) = true := by
          rw [List.all_eq_true]
          intro y hy
          have := hn.out y (by rw [← HL.out, List.take_length]; exact hy)
          simpa using this
        rw [this, Bool.true_and]
      clear hn
      cases h63 : decide (63 ∈ nums s)
      · rw [h63] at H63 F
        cases h35 : decide (35 ∈ nums s)
        · rw [h35] at H35 F
          clear h63 h35
          go_wp2_with fail
          refine H63.out.mono ?_
          rintro e w' ⟨rfl, rfl⟩
          go_wp2_with fail
          refine H35.out.mono ?_
          rintro e w' ⟨rfl, rfl⟩
          go_wp2
          go_ret
          exact ⟨ret_bool F.out.symm, rfl⟩
        · rw [h35] at H35 F
          clear h63 h35
          go_wp2_with fail
          refine H63.out.mono ?_
          rintro e w' ⟨rfl, rfl⟩
          go_wp2_with fail
          refine H35.out.mono ?_
          rintro e w' ⟨rfl, rfl⟩
          go_wp2
          go_ret
          exact ⟨ret_bool F.out.symm, rfl⟩
      · rw [h63] at H63 F
        clear h63
        go_wp2_with (go_at_call 27; refine H63.out.mono ?_; rintro e w' ⟨rfl, rfl⟩)
        go_ret
        exact ⟨ret_bool F.out.symm, rfl⟩
end Go.Proofs.YtpnmddealjoiiaaDoor
