/-
  xml: the letters of a text, step by step as the library's decoder goes.
-/
import Derived.Test.YteefjmdallpihaaGreatDoorXmA
import Derived.Lib.ValidLaws
import Derived.Lib.DecodeN
namespace Go.Proofs.YteefjmdallpihaaGreatDoor
namespace Xml
open Go.Lib
section
variable {n a b c d : Nat}
theorem dN1 (h : a < 128) : decodeN n a b c d = (a, 1) := by unfold decodeN; rw [if_pos h]
theorem dN2 (h1 : 194 ≤ a ∧ a ≤ 223) (h2 : 128 ≤ b ∧ b ≤ 191) (hn : 2 ≤ n) : decodeN n a b c d = ((a - 192) * 64 + (b - 128), 2) := by
  unfold decodeN
  rw [if_neg (by omega), if_pos (by omega), if_pos (by omega)]
  exact Prod.ext (by show _ = _; omega) rfl
theorem dN3 (h1 : 224 ≤ a ∧ a ≤ 239) (h2 : 128 ≤ b ∧ b ≤ 191) (h3 : 128 ≤ c ∧ c ≤ 191) (h4 : (a = 224 → 160 ≤ b) ∧ (a = 237 → b ≤ 159)) (hn : 3 ≤ n) : decodeN n a b c d = ((a - 224) * 4096 + (b - 128) * 64 + (c - 128), 3) := by
  unfold decodeN
  rw [if_neg (by omega), if_neg (by omega), if_pos (by omega), if_pos (by omega)]
  exact Prod.ext (by show _ = _; omega) rfl
theorem dN4 (h1 : 240 ≤ a ∧ a ≤ 244) (h2 : 128 ≤ b ∧ b ≤ 191) (h3 : 128 ≤ c ∧ c ≤ 191) (h5 : 128 ≤ d ∧ d ≤ 191) (h4 : (a = 240 → 144 ≤ b) ∧ (a = 244 → b ≤ 143)) (hn : 4 ≤ n) : decodeN n a b c d = ((a - 240) * 262144 + (b - 128) * 4096 + (c - 128) * 64 + (d - 128), 4) := by
  unfold decodeN
  rw [if_neg (by omega), if_neg (by omega), if_neg (by omega), if_pos (by omega), if_pos (by omega)]
  exact Prod.ext (by show _ = _; omega) rfl
theorem dNbad (ha : a < 256) (hb : b < 256) (hc : c < 256) (hd : d < 256) (h1 : ¬ a < 128) (h2 : ¬ ((194 ≤ a ∧ a ≤ 223) ∧ (128 ≤ b ∧ b ≤ 191) ∧ 2 ≤ n))
    (h3 : ¬ ((224 ≤ a ∧ a ≤ 239) ∧ (128 ≤ b ∧ b ≤ 191) ∧ (128 ≤ c ∧ c ≤ 191) ∧ ((a = 224 → 160 ≤ b) ∧ (a = 237 → b ≤ 159)) ∧ 3 ≤ n))
    (h4 : ¬ ((240 ≤ a ∧ a ≤ 244) ∧ (128 ≤ b ∧ b ≤ 191) ∧ (128 ≤ c ∧ c ≤ 191) ∧ (128 ≤ d ∧ d ≤ 191) ∧ ((a = 240 → 144 ≤ b) ∧ (a = 244 → b ≤ 143)) ∧ 4 ≤ n)) : decodeN n a b c d = (65533, 1) := by
  unfold decodeN
  rw [if_neg h1]
  split
  · rw [if_neg (by omega)]
  · split
    · rw [if_neg (by omega)]
    · split
      · rw [if_neg (by omega)]
      · rfl
end
theorem u8_lt (c : UInt8) : c.toNat < 256 := c.toNat_lt
/-- The decoder's step at the beginning of a text. -/
def stepD (l : B) : Nat × Nat := decodeN l.length (l.getD 0 0).toNat (l.getD 1 0).toNat (l.getD 2 0).toNat (l.getD 3 0).toNat
theorem runes_step (f : Nat) (c : UInt8) (l : B) : runes (f + 1) (c :: l) = if (stepD (c :: l)).1 = 65533 ∧ (stepD (c :: l)).2 = 1 then none else (runes f ((c :: l).drop (stepD (c :: l)).2)).map ((stepD (c :: l)).1 :: ·) := by
  have hc := u8_lt c
  have e0 : stepD (c :: l) = decodeN (l.length + 1) c.toNat (l.getD 0 0).toNat (l.getD 1 0).toNat (l.getD 2 0).toNat := rfl
  rw [e0]
  clear e0
  by_cases h1 : c.toNat < 128
  · rw [dN1 h1, runes.eq_def]
    dsimp only
    rw [if_pos h1, if_neg (by show ¬ (c.toNat = 65533 ∧ 1 = 1); omega)]
    rfl
  · rw [runes.eq_def]
    dsimp only
    rw [if_neg h1]
    rcases l with _ | ⟨d, l1⟩
    · rw [dNbad hc (by decide) (by decide) (by decide) h1 (by simp) (by simp) (by simp), if_pos ⟨rfl, rfl⟩]
    · have hd := u8_lt d
      have g0 : ((d :: l1).getD 0 0).toNat = d.toNat := rfl
      rw [g0]
      by_cases h2 : 128 ≤ d.toNat ∧ d.toNat ≤ 191
      · simp only [if_pos h2]
        by_cases h3 : 194 ≤ c.toNat ∧ c.toNat ≤ 223
        · rw [if_pos h3, dN2 h3 h2 (by simp), if_neg (by show ¬ (_ ∧ 2 = 1); omega)]
          rfl
        · rw [if_neg h3]
          rcases l1 with _ | ⟨e, l2⟩
          · rw [dNbad hc hd (u8_lt _) (u8_lt _) h1 (by omega) (by simp) (by simp), if_pos ⟨rfl, rfl⟩]
          · have he := u8_lt e
            have g1 : ((d :: e :: l2).getD 1 0).toNat = e.toNat := rfl
            rw [g1]
            by_cases h4 : 128 ≤ e.toNat ∧ e.toNat ≤ 191
            · simp only [if_pos h4]
              by_cases h5 : 224 ≤ c.toNat ∧ c.toNat ≤ 239
              · rw [if_pos h5]
                have hx := u8_lt ((d :: e :: l2).getD 2 0)
                by_cases h6 : (c.toNat = 224 → 160 ≤ d.toNat) ∧ (c.toNat = 237 → d.toNat ≤ 159)
                · rw [if_pos h6, dN3 h5 h2 h4 h6 (by simp), if_neg (by show ¬ (_ ∧ 3 = 1); omega)]
                  rfl
                · rw [if_neg h6, dNbad hc hd he hx h1 (by omega) (by omega) (by omega), if_pos ⟨rfl, rfl⟩]
              · rw [if_neg h5]
                rcases l2 with _ | ⟨g, l3⟩
                · rw [dNbad hc hd he (u8_lt _) h1 (by omega) (by omega) (by simp), if_pos ⟨rfl, rfl⟩]
                · have hg := u8_lt g
                  have g2 : ((d :: e :: g :: l3).getD 2 0).toNat = g.toNat := rfl
                  rw [g2]
                  by_cases h7 : 128 ≤ g.toNat ∧ g.toNat ≤ 191 ∧ 240 ≤ c.toNat ∧ c.toNat ≤ 244 ∧ (c.toNat = 240 → 144 ≤ d.toNat) ∧ (c.toNat = 244 → d.toNat ≤ 143)
                  · simp only [if_pos h7]
                    rw [dN4 ⟨h7.2.2.1, h7.2.2.2.1⟩ h2 h4 ⟨h7.1, h7.2.1⟩ h7.2.2.2.2 (by simp), if_neg (by show ¬ (_ ∧ 4 = 1); omega)]
                    rfl
                  · simp only [if_neg h7]
                    rw [dNbad hc hd he hg h1 (by omega) (by omega) (fun h => h7 ⟨h.2.2.2.1.1, h.2.2.2.1.2, h.1.1, h.1.2, h.2.2.2.2.1⟩), if_pos ⟨rfl, rfl⟩]
            · simp only [if_neg h4]
              rw [dNbad hc hd he (u8_lt _) h1 (by omega) (by omega) (by omega), if_pos ⟨rfl, rfl⟩]
      · simp only [if_neg h2]
        rw [dNbad hc hd (u8_lt _) (u8_lt _) h1 (by omega) (by omega) (by omega), if_pos ⟨rfl, rfl⟩]
theorem stepD_pos {l : B} : 1 ≤ (stepD l).2 := by
  unfold stepD decodeN
  repeat' split
  all_goals simp
theorem runes_fuel : ∀ (f : Nat) (l : B), l.length ≤ f → runes f l = runes l.length l
  | 0, l, h => by
    have : l = [] := List.eq_nil_of_length_eq_zero (by omega)
    subst this
    rfl
  | f + 1, [], _ => rfl
  | f + 1, c :: l, h => by
    have k := stepD_pos (l := c :: l)
    simp only [List.length_cons] at h
    have e : ((c :: l).drop (stepD (c :: l)).2).length ≤ l.length := by rw [List.length_drop]; simp only [List.length_cons]; omega
    rw [runes_step, show (c :: l).length = l.length + 1 from rfl, runes_step, runes_fuel f _ (by omega), runes_fuel l.length _ e]
  termination_by f l => (f, l.length)
theorem letters_nil : letters [] = true := rfl
theorem letters_step {l : B} (hl : l ≠ []) : letters l = if (stepD l).1 = 65533 ∧ (stepD l).2 = 1 then false else letter (stepD l).1 && letters (l.drop (stepD l).2) := by
  obtain ⟨c, r, rfl⟩ : ∃ c r, l = c :: r := by cases l with
    | nil => exact absurd rfl hl
    | cons c r => exact ⟨c, r, rfl⟩
  have k := stepD_pos (l := c :: r)
  have e : ((c :: r).drop (stepD (c :: r)).2).length ≤ r.length := by rw [List.length_drop]; simp only [List.length_cons]; omega
  unfold letters
  rw [show (c :: r).length = r.length + 1 from rfl, runes_step]
  by_cases hb : (stepD (c :: r)).1 = 65533 ∧ (stepD (c :: r)).2 = 1
  · rw [if_pos hb, if_pos hb]
  · rw [if_neg hb, if_neg hb, runes_fuel r.length _ e]
    cases runes ((c :: r).drop (stepD (c :: r)).2).length ((c :: r).drop (stepD (c :: r)).2) with
    | none => simp
    | some rs => simp
theorem decode_step (l : B) (i : Nat) : Utf8.decode ⟨l.toArray⟩ i = stepD (l.drop i) := by
  have g : ∀ k, ((⟨l.toArray⟩ : ByteArray).get! k) = l.getD k 0 := fun k => by
    rw [List.getD_eq_getElem?_getD]
    show (l.toArray)[k]! = _
    rw [getElem!_def]
    rcases Nat.lt_or_ge k l.length with h | h
    · simp [h]
    · have : l[k]? = none := List.getElem?_eq_none h
      simp [this]
      rfl
  have dg : ∀ j, (l.drop i).getD j 0 = l.getD (i + j) 0 := fun j => by rw [List.getD_eq_getElem?_getD, List.getElem?_drop, List.getD_eq_getElem?_getD]
  rw [Lib.decode_at, g, g, g, g]
  unfold stepD
  rw [dg, dg, dg, dg, List.length_drop]
  have : (⟨l.toArray⟩ : ByteArray).size = l.length := by show l.toArray.size = _; simp
  rw [this]
  rfl
theorem validD_letters : ∀ (n : Nat) (l : B), l.length ≤ n → Lib.validD l = false → letters l = false
  | 0, l, h, hv => by
    have : l = [] := List.eq_nil_of_length_eq_zero (by omega)
    subst this
    cases hv
  | n + 1, l, h, hv => by
    by_cases hl : l = []
    · subst hl; cases hv
    · rw [Lib.validD_step l hl] at hv
      have e : Lib.decodeL l = stepD l := by
        have := decode_step l 0
        rw [List.drop_zero] at this
        exact this
      rw [e] at hv
      rw [letters_step hl]
      split at hv
      · rename_i hb; rw [if_pos hb]
      · rename_i hb
        rw [if_neg hb, validD_letters n _ (by
          have := stepD_pos (l := l)
          have := List.length_pos_iff.2 hl
          rw [List.length_drop]; omega) hv, Bool.and_false]
theorem validD_drop {l : B} (hl : l ≠ []) (hv : Lib.validD l = true) : ¬ ((stepD l).1 = 65533 ∧ (stepD l).2 = 1) ∧ Lib.validD (l.drop (stepD l).2) = true := by
  have e : Lib.decodeL l = stepD l := by
    have := decode_step l 0
    rw [List.drop_zero] at this
    exact this
  rw [Lib.validD_step l hl, e] at hv
  split at hv
  · cases hv
  · rename_i hb; exact ⟨hb, hv⟩
theorem stepD_len {l : B} (hl : l ≠ []) : (stepD l).2 ≤ l.length := by
  have hp := List.length_pos_iff.2 hl
  unfold stepD decodeN
  repeat' split
  all_goals (simp only; omega)
theorem stepD_le (l : B) : (stepD l).1 ≤ 1114111 := by
  have hc := u8_lt (l.getD 0 0)
  unfold stepD decodeN
  repeat' split
  all_goals (simp only; omega)
theorem stepD_low {l : B} (h : (l.getD 0 0).toNat < 128) : stepD l = ((l.getD 0 0).toNat, 1) := by
  unfold stepD
  exact dN1 h
theorem stepD_high {l : B} (h : 128 ≤ (l.getD 0 0).toNat) : 128 ≤ (stepD l).1 ∧ ((stepD l).1 < 55296 ∨ (57343 < (stepD l).1 ∧ (stepD l).1 ≤ 1114111)) ∧ ∀ j, j < (stepD l).2 → 128 ≤ (l.getD j 0).toNat := by
  have h0 := u8_lt (l.getD 0 0)
  have h1 := u8_lt (l.getD 1 0)
  have h2 := u8_lt (l.getD 2 0)
  have h3 := u8_lt (l.getD 3 0)
  have one : ∀ j, j < 1 → 128 ≤ (l.getD j 0).toNat := fun j hj => by
    have : j = 0 := by omega
    subst this
    exact h
  unfold stepD decodeN
  rw [if_neg (by omega)]
  split
  · split
    · refine ⟨by show 128 ≤ _; omega, by show _ ∨ _; simp only; omega, fun j hj => ?_⟩
      have hj : j < 2 := hj
      have : j = 0 ∨ j = 1 := by omega
      rcases this with rfl | rfl <;> omega
    · exact ⟨by decide, by decide, one⟩
  · split
    · split
      · refine ⟨by show 128 ≤ _; omega, by show _ ∨ _; simp only; omega, fun j hj => ?_⟩
        have hj : j < 3 := hj
        have : j = 0 ∨ j = 1 ∨ j = 2 := by omega
        rcases this with rfl | rfl | rfl <;> omega
      · exact ⟨by decide, by decide, one⟩
    · split
      · split
        · refine ⟨by show 128 ≤ _; omega, by show _ ∨ _; simp only; omega, fun j hj => ?_⟩
          have hj : j < 4 := hj
          have : j = 0 ∨ j = 1 ∨ j = 2 ∨ j = 3 := by omega
          rcases this with rfl | rfl | rfl | rfl <;> omega
        · exact ⟨by decide, by decide, one⟩
      · exact ⟨by decide, by decide, one⟩
end Xml
end Go.Proofs.YteefjmdallpihaaGreatDoor
