/-
  Plain arithmetic of CRC-32C, no program in it: whatever happens within 32 bits, one behind the other, is seen.
-/
import Derived.Test.YtpkbhchgfcediaaCrcMath
namespace Go.Proofs.Ytpkbhchgfcediaa
namespace Crc

theorem Sn_two_pow (i : Nat) : Sn i (2 ^ i) = 1 := by
  induction i with
  | zero => rfl
  | succ i ih =>
    show Sn i (S (2 ^ (i + 1))) = 1
    rw [Nat.pow_succ, S_even (by omega), Nat.mul_div_cancel _ (by omega)]
    exact ih

/-- One bit turned. -/
def turn (l : List Nat) (j : Nat) : List Nat := l.set (j / 8) (l.getD (j / 8) 0 ^^^ 2 ^ (j % 8))
theorem turn_len (l : List Nat) (j : Nat) : (turn l j).length = l.length := by simp [turn]
theorem run_turn (r : Nat) (l : List Nat) (j : Nat) (h : j < 8 * l.length) : run r (turn l j) = run r l ^^^ Sn (8 * l.length - j) 1 := by
  have e := run_mix (turn l j) l r r (turn_len l j)
  rw [Nat.xor_self] at e
  unfold turn at e ⊢
  rw [mix_set l (j / 8) (2 ^ (j % 8)) (by omega), run_append, run_zeros, Sn_zero, run_cons, Nat.zero_xor, run_zeros, ← Sn_add] at e
  have h1 : 8 + 8 * (l.length - j / 8 - 1) = j % 8 + (8 * l.length - j) := by omega
  rw [h1, Sn_add, Sn_two_pow] at e
  rw [e, Nat.xor_comm (run r (l.set _ _)), ← Nat.xor_assoc, Nat.xor_self, Nat.zero_xor]

/-- The text behind k rounds: the bits of q from the b-th bit on. -/
def fl (b q : Nat) (l : List Nat) : Nat → List Nat
  | 0 => l
  | k + 1 => if q / 2 ^ k % 2 = 1 ∧ (b + k) / 8 < l.length then turn (fl b q l k) (b + k) else fl b q l k
theorem fl_len (b q : Nat) (l : List Nat) (k : Nat) : (fl b q l k).length = l.length := by
  induction k with
  | zero => rfl
  | succ k ih =>
    unfold fl
    split
    · rw [turn_len]; exact ih
    · exact ih

theorem mod_step (q k : Nat) : q % 2 ^ (k + 1) = (q % 2 ^ k) ^^^ (if q / 2 ^ k % 2 = 1 then 2 ^ k else 0) := by
  apply Nat.eq_of_testBit_eq
  intro i
  rw [Nat.testBit_xor, Nat.testBit_mod_two_pow, Nat.testBit_mod_two_pow]
  have hq : q.testBit k = decide (q / 2 ^ k % 2 = 1) := Nat.testBit_eq_decide_div_mod_eq
  by_cases hb : q / 2 ^ k % 2 = 1
  · rw [if_pos hb, Nat.testBit_two_pow]
    rw [decide_eq_true hb] at hq
    by_cases hi : i = k
    · subst hi; simp [hq]
    · by_cases h2 : i < k
      · simp [h2, show i < k + 1 by omega, show ¬ k = i by omega]
      · simp [h2, show ¬ i < k + 1 by omega, show ¬ k = i by omega]
  · rw [if_neg hb, Nat.zero_testBit]
    rw [decide_eq_false hb] at hq
    by_cases hi : i = k
    · subst hi; simp [hq]
    · by_cases h2 : i < k
      · simp [h2, show i < k + 1 by omega]
      · simp [h2, show ¬ i < k + 1 by omega]

theorem run_fl (r b q : Nat) (l : List Nat) (k : Nat) : run r (fl b q l k) = run r l ^^^ Sn (8 * l.length - b) (q % 2 ^ (min k (8 * l.length - b))) := by
  induction k with
  | zero => simp [fl, Nat.mod_one, Sn_zero]
  | succ k ih =>
    by_cases hk : k < 8 * l.length - b
    · have h8 : (b + k) / 8 < l.length := by omega
      have m1 : min k (8 * l.length - b) = k := by omega
      have m2 : min (k + 1) (8 * l.length - b) = k + 1 := by omega
      rw [m1] at ih
      rw [m2, mod_step]
      by_cases hb : q / 2 ^ k % 2 = 1
      · have e : fl b q l (k + 1) = turn (fl b q l k) (b + k) := by show (if _ then _ else _) = _; rw [if_pos ⟨hb, h8⟩]
        rw [e, run_turn _ _ _ (by rw [fl_len]; omega), ih, fl_len, if_pos hb, Sn_xor]
        have h1 : 8 * l.length - b = k + (8 * l.length - (b + k)) := by omega
        have h2 : Sn (8 * l.length - b) (2 ^ k) = Sn (8 * l.length - (b + k)) 1 := by rw [h1, Sn_add, Sn_two_pow]
        rw [h2, Nat.xor_assoc]
      · have e : fl b q l (k + 1) = fl b q l k := by show (if _ then _ else _) = _; rw [if_neg (fun h => hb h.1)]
        rw [e, ih, if_neg hb, Nat.xor_zero]
    · have m1 : min k (8 * l.length - b) = 8 * l.length - b := by omega
      have m2 : min (k + 1) (8 * l.length - b) = 8 * l.length - b := by omega
      have e : fl b q l (k + 1) = fl b q l k := by show (if _ then _ else _) = _; rw [if_neg (fun h => by have := h.2; omega)]
      rw [e, ih, m1, m2]

theorem fl_same (b q : Nat) (l : List Nat) (m : Nat) (h : q % 2 ^ (min m (8 * l.length - b)) = 0) : ∀ k, k ≤ m → fl b q l k = l := by
  intro k
  induction k with
  | zero => intro _; rfl
  | succ k ih =>
    intro hk
    have e : fl b q l (k + 1) = fl b q l k := by
      show (if _ then _ else _) = _
      rw [if_neg]
      intro ⟨hb, h8⟩
      have h1 : (q % 2 ^ (min m (8 * l.length - b))).testBit k = true := by
        rw [Nat.testBit_mod_two_pow, Nat.testBit_eq_decide_div_mod_eq, decide_eq_true hb]
        simp
        omega
      rw [h, Nat.zero_testBit] at h1
      cases h1
    rw [e, ih (by omega)]

/-- Whatever happens within 32 bits is seen. -/
theorem sum_fl (b q : Nat) (l : List Nat) (hq : q < 4294967296) : sum (fl b q l 32) = sum l ↔ fl b q l 32 = l := by
  constructor
  · intro h
    have h1 : run (inv 0) (fl b q l 32) = run (inv 0) l := by
      have := congrArg inv h
      simpa only [sum, upd, inv_inv] using this
    rw [run_fl] at h1
    have h2 : Sn (8 * l.length - b) (q % 2 ^ (min 32 (8 * l.length - b))) = 0 := by
      have := congrArg (fun x => run (inv 0) l ^^^ x) h1
      simpa only [← Nat.xor_assoc, Nat.xor_self, Nat.zero_xor] using this
    have h3 := Sn_eq_zero _ (show q % 2 ^ (min 32 (8 * l.length - b)) < 4294967296 from Nat.lt_of_le_of_lt (Nat.mod_le _ _) hq) h2
    exact fl_same b q l 32 h3 32 (Nat.le_refl _)
  · intro h
    rw [h]
end Crc
end Go.Proofs.Ytpkbhchgfcediaa
