/-
  uri: the letters of UTF-8 as the library's decoder has them, beside the document's.
-/
import Derived.Test.YtpnmddealjoiiaaDoorU5
import Derived.Test.YtpnmddealjoiiaaDoorLaid
import Derived.Lib.ValidLaws
import Derived.Lib.OthersKept
import Derived.Lib.IndexAny
import Derived.Lib.IndexBytes
import Derived.Laws.RangeString
import Derived.Laws.Strings3
import Derived.Laws.Runes
import Derived.Deep.LoopGhost
namespace Go.Proofs.YtpnmddealjoiiaaDoor
open Go.RowKit Uri

set_option maxHeartbeats 1600000 in
theorem decN_step {l : List Nat} (hl : l ≠ []) (h8 : ∀ i, l.getD i 0 < 256) : Uri.step l = if (Lib.decodeN l.length (l.getD 0 0) (l.getD 1 0) (l.getD 2 0) (l.getD 3 0)).1 = 65533 ∧ (Lib.decodeN l.length (l.getD 0 0) (l.getD 1 0) (l.getD 2 0) (l.getD 3 0)).2 = 1 then none
    else some (Lib.decodeN l.length (l.getD 0 0) (l.getD 1 0) (l.getD 2 0) (l.getD 3 0)).2 := by
  have hn : 1 ≤ l.length := List.length_pos_iff.2 hl
  have b0 := h8 0
  have b1 := h8 1
  have b2 := h8 2
  have b3 := h8 3
  unfold Uri.step Lib.decodeN co
  generalize l.length = n at *
  generalize l.getD 0 0 = a at *
  generalize l.getD 1 0 = b at *
  generalize l.getD 2 0 = c at *
  generalize l.getD 3 0 = d at *
  by_cases c1 : a < 128
  · rw [if_pos c1, if_pos c1, if_neg (by show ¬ (a = 65533 ∧ _); omega)]
  · rw [if_neg c1, if_neg c1]
    by_cases c2 : 192 ≤ a ∧ a < 224
    · rw [if_pos c2]
      by_cases e : a / 32 = 6 ∧ (1 < n ∧ b / 64 = 2)
      · by_cases g : a % 32 * 64 + b % 64 ≥ 128
        · rw [if_pos (show 2 ≤ n ∧ (128 ≤ b ∧ b ≤ 191) ∧ 128 ≤ (a - 192) * 64 + (b - 128) by omega), if_pos e, if_pos g, if_neg (by show ¬ (_ ∧ 2 = 1); omega)]
        · rw [if_neg (show ¬ (2 ≤ n ∧ (128 ≤ b ∧ b ≤ 191) ∧ 128 ≤ (a - 192) * 64 + (b - 128)) by omega), if_pos e, if_neg g, if_pos ⟨rfl, rfl⟩]
      · rw [if_neg (show ¬ (2 ≤ n ∧ (128 ≤ b ∧ b ≤ 191) ∧ 128 ≤ (a - 192) * 64 + (b - 128)) by omega), if_neg e, if_neg (show ¬ (a / 16 = 14 ∧ (1 < n ∧ b / 64 = 2) ∧ (2 < n ∧ c / 64 = 2)) by omega), if_neg (show ¬ (a / 8 = 30 ∧ (1 < n ∧ b / 64 = 2) ∧ (2 < n ∧ c / 64 = 2) ∧ (3 < n ∧ d / 64 = 2)) by omega), if_pos ⟨rfl, rfl⟩]
    · have n2 : ¬ (a / 32 = 6 ∧ (1 < n ∧ b / 64 = 2)) := by omega
      rw [if_neg c2]
      by_cases c3 : 224 ≤ a ∧ a < 240
      · rw [if_pos c3]
        by_cases e : a / 16 = 14 ∧ (1 < n ∧ b / 64 = 2) ∧ (2 < n ∧ c / 64 = 2)
        · by_cases g : a % 16 * 4096 + b % 64 * 64 + c % 64 ≥ 2048 ∧ (a % 16 * 4096 + b % 64 * 64 + c % 64 < 55296 ∨ (57344 ≤ a % 16 * 4096 + b % 64 * 64 + c % 64 ∧ a % 16 * 4096 + b % 64 * 64 + c % 64 ≤ 1114111))
          · rw [if_pos (show 3 ≤ n ∧ (128 ≤ b ∧ b ≤ 191) ∧ (128 ≤ c ∧ c ≤ 191) ∧ 2048 ≤ ((a - 224) * 64 + (b - 128)) * 64 + (c - 128) ∧ (((a - 224) * 64 + (b - 128)) * 64 + (c - 128) < 55296 ∨ 57343 < ((a - 224) * 64 + (b - 128)) * 64 + (c - 128)) by omega), if_neg n2, if_pos e, if_pos g, if_neg (by show ¬ (_ ∧ 3 = 1); omega)]
          · rw [if_neg (show ¬ (3 ≤ n ∧ (128 ≤ b ∧ b ≤ 191) ∧ (128 ≤ c ∧ c ≤ 191) ∧ 2048 ≤ ((a - 224) * 64 + (b - 128)) * 64 + (c - 128) ∧ (((a - 224) * 64 + (b - 128)) * 64 + (c - 128) < 55296 ∨ 57343 < ((a - 224) * 64 + (b - 128)) * 64 + (c - 128))) by omega), if_neg n2, if_pos e, if_neg g, if_pos ⟨rfl, rfl⟩]
        · rw [if_neg (show ¬ (3 ≤ n ∧ (128 ≤ b ∧ b ≤ 191) ∧ (128 ≤ c ∧ c ≤ 191) ∧ 2048 ≤ ((a - 224) * 64 + (b - 128)) * 64 + (c - 128) ∧ (((a - 224) * 64 + (b - 128)) * 64 + (c - 128) < 55296 ∨ 57343 < ((a - 224) * 64 + (b - 128)) * 64 + (c - 128))) by omega), if_neg n2, if_neg e, if_neg (show ¬ (a / 8 = 30 ∧ (1 < n ∧ b / 64 = 2) ∧ (2 < n ∧ c / 64 = 2) ∧ (3 < n ∧ d / 64 = 2)) by omega), if_pos ⟨rfl, rfl⟩]
      · have n3 : ¬ (a / 16 = 14 ∧ (1 < n ∧ b / 64 = 2) ∧ (2 < n ∧ c / 64 = 2)) := by omega
        rw [if_neg c3]
        by_cases c4 : 240 ≤ a ∧ a < 248
        · rw [if_pos c4]
          by_cases e : a / 8 = 30 ∧ (1 < n ∧ b / 64 = 2) ∧ (2 < n ∧ c / 64 = 2) ∧ (3 < n ∧ d / 64 = 2)
          · by_cases g : a % 8 * 262144 + b % 64 * 4096 + c % 64 * 64 + d % 64 ≥ 65536 ∧ (a % 8 * 262144 + b % 64 * 4096 + c % 64 * 64 + d % 64 < 55296 ∨ (57344 ≤ a % 8 * 262144 + b % 64 * 4096 + c % 64 * 64 + d % 64 ∧ a % 8 * 262144 + b % 64 * 4096 + c % 64 * 64 + d % 64 ≤ 1114111))
            · rw [if_pos (show 4 ≤ n ∧ (128 ≤ b ∧ b ≤ 191) ∧ (128 ≤ c ∧ c ≤ 191) ∧ (128 ≤ d ∧ d ≤ 191) ∧ 65536 ≤ (((a - 240) * 64 + (b - 128)) * 64 + (c - 128)) * 64 + (d - 128) ∧ (((a - 240) * 64 + (b - 128)) * 64 + (c - 128)) * 64 + (d - 128) ≤ 1114111 by omega), if_neg n2, if_neg n3, if_pos e, if_pos g, if_neg (by show ¬ (_ ∧ 4 = 1); omega)]
            · rw [if_neg (show ¬ (4 ≤ n ∧ (128 ≤ b ∧ b ≤ 191) ∧ (128 ≤ c ∧ c ≤ 191) ∧ (128 ≤ d ∧ d ≤ 191) ∧ 65536 ≤ (((a - 240) * 64 + (b - 128)) * 64 + (c - 128)) * 64 + (d - 128) ∧ (((a - 240) * 64 + (b - 128)) * 64 + (c - 128)) * 64 + (d - 128) ≤ 1114111) by omega), if_neg n2, if_neg n3, if_pos e, if_neg g, if_pos ⟨rfl, rfl⟩]
          · rw [if_neg (show ¬ (4 ≤ n ∧ (128 ≤ b ∧ b ≤ 191) ∧ (128 ≤ c ∧ c ≤ 191) ∧ (128 ≤ d ∧ d ≤ 191) ∧ 65536 ≤ (((a - 240) * 64 + (b - 128)) * 64 + (c - 128)) * 64 + (d - 128) ∧ (((a - 240) * 64 + (b - 128)) * 64 + (c - 128)) * 64 + (d - 128) ≤ 1114111) by omega), if_neg n2, if_neg n3, if_neg e, if_pos ⟨rfl, rfl⟩]
        · rw [if_neg c4, if_neg n2, if_neg n3, if_neg (show ¬ (a / 8 = 30 ∧ (1 < n ∧ b / 64 = 2) ∧ (2 < n ∧ c / 64 = 2) ∧ (3 < n ∧ d / 64 = 2)) by omega), if_pos ⟨rfl, rfl⟩]
theorem get_nums (s : ByteArray) (i : Nat) : (s.get! i).toNat = (nums s).getD i 0 := by
  rcases Nat.lt_or_ge i s.size with h | h
  · rw [← nat_at s i h]
    congr 1
    show s.data[i]! = s.data[i]
    exact getElem!_pos s.data i h
  · rw [List.getD_eq_getElem?_getD, List.getElem?_eq_none (by rw [nums_length]; exact h)]
    have : s.get! i = default := getElem!_neg s.data i (Nat.not_lt.2 h)
    rw [this]
    rfl
theorem drop_getD (l : List Nat) (i j : Nat) : (l.drop i).getD j 0 = l.getD (i + j) 0 := by
  rw [List.getD_eq_getElem?_getD, List.getElem?_drop, List.getD_eq_getElem?_getD]
/-- The model's own decoder, beside the document's letters. -/
theorem decode_nums (s : ByteArray) (i : Nat) : Utf8.decode s i = Lib.decodeN ((nums s).drop i).length (((nums s).drop i).getD 0 0) (((nums s).drop i).getD 1 0) (((nums s).drop i).getD 2 0) (((nums s).drop i).getD 3 0) := by
  rw [Lib.decode_at, get_nums, get_nums, get_nums, get_nums, List.length_drop, nums_length, drop_getD, drop_getD, drop_getD, drop_getD]
  rfl
theorem decode_step (s : ByteArray) (i : Nat) (hi : i < s.size) : Uri.step ((nums s).drop i) = if (Utf8.decode s i).1 = 65533 ∧ (Utf8.decode s i).2 = 1 then none else some (Utf8.decode s i).2 := by
  rw [decode_nums]
  refine decN_step (fun h => ?_) (fun j => ?_)
  · have := congrArg List.length h
    rw [List.length_drop, nums_length] at this
    simp at this
    omega
  · rw [drop_getD]; exact getD_lt s _
theorem nums_mk (l : List UInt8) : nums ⟨l.toArray⟩ = l.map fun b => b.toNat := rfl
theorem validD_utf8 : ∀ (n : Nat) (l : List UInt8), l.length ≤ n → Lib.validD l = utf8 (l.map fun b => b.toNat)
  | 0, l, h => by
    have : l = [] := List.eq_nil_of_length_eq_zero (by omega)
    subst this
    rfl
  | n + 1, l, h => by
    by_cases hl : l = []
    · subst hl; rfl
    · rw [Lib.validD_step l hl]
      have hpos : 0 < l.length := List.length_pos_iff.2 hl
      have hs := decode_step ⟨l.toArray⟩ 0 (by show 0 < l.toArray.size; simpa using hpos)
      rw [List.drop_zero, nums_mk] at hs
      have hne : (l.map fun b => b.toNat) ≠ [] := by simpa using hl
      show (if (Utf8.decode ⟨l.toArray⟩ 0).1 = 65533 ∧ (Utf8.decode ⟨l.toArray⟩ 0).2 = 1 then false else Lib.validD (l.drop (Utf8.decode ⟨l.toArray⟩ 0).2)) = _
      by_cases hb : (Utf8.decode ⟨l.toArray⟩ 0).1 = 65533 ∧ (Utf8.decode ⟨l.toArray⟩ 0).2 = 1
      · rw [if_pos hb] at hs ⊢
        rw [utf8_none hne hs]
      · rw [if_neg hb] at hs ⊢
        have hr := step_range hne hs
        rw [utf8_step hne hs, validD_utf8 n _ (by rw [List.length_drop]; omega), List.map_drop]
theorem step_high {l : List Nat} {k : Nat} (h : Uri.step l = some k) (h0 : 128 ≤ l.getD 0 0) : 2 ≤ k ∧ ∀ j < k, 128 ≤ l.getD j 0 := by
  unfold Uri.step co at h
  rw [if_neg (by omega)] at h
  split at h
  · split at h
    · injection h with h
      subst h
      refine ⟨by omega, fun j hj => ?_⟩
      have : j = 0 ∨ j = 1 := by omega
      rcases this with rfl | rfl <;> omega
    · cases h
  · split at h
    · split at h
      · injection h with h
        subst h
        refine ⟨by omega, fun j hj => ?_⟩
        have : j = 0 ∨ j = 1 ∨ j = 2 := by omega
        rcases this with rfl | rfl | rfl <;> omega
      · cases h
    · split at h
      · split at h
        · injection h with h
          subst h
          refine ⟨by omega, fun j hj => ?_⟩
          have : j = 0 ∨ j = 1 ∨ j = 2 ∨ j = 3 := by omega
          rcases this with rfl | rfl | rfl | rfl <;> omega
        · cases h
      · cases h
theorem decode_high (s : ByteArray) (i : Nat) (h0 : 128 ≤ (nums s).getD i 0) (hb : ¬ ((Utf8.decode s i).1 = 65533 ∧ (Utf8.decode s i).2 = 1)) :
    128 ≤ (Utf8.decode s i).1 ∧ (((Utf8.decode s i).1 < 55296) ∨ (57343 < (Utf8.decode s i).1 ∧ (Utf8.decode s i).1 ≤ 1114111)) := by
  rw [decode_nums] at hb ⊢
  have e : ((nums s).drop i).getD 0 0 = (nums s).getD i 0 := by rw [drop_getD]; rfl
  rw [e] at hb ⊢
  have b0 := getD_lt s i
  generalize (nums s).getD i 0 = a at *
  generalize ((nums s).drop i).getD 1 0 = b at *
  generalize ((nums s).drop i).getD 2 0 = c at *
  generalize ((nums s).drop i).getD 3 0 = d at *
  generalize ((nums s).drop i).length = n at *
  unfold Lib.decodeN at hb ⊢
  rw [if_neg (by omega)] at hb ⊢
  repeat' split at hb
  all_goals first
    | exact absurd ⟨rfl, rfl⟩ hb
    | skip
  all_goals (repeat' split)
  all_goals first
    | (simp only; omega)
    | (exfalso; omega)
end Go.Proofs.YtpnmddealjoiiaaDoor
