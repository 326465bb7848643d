/-
  The plain mathematics of layer 3's numbers: so many bytes, the lowest first, and back.
-/
import Derived.Laws.BitsAllLaws
namespace Go.Proofs.YtnogmgnbhcmajaaDoor
namespace Wal
/-- k bytes of x, the lowest first. -/
def num : Nat → Nat → List Nat
  | 0, _ => []
  | k + 1, x => x % 256 :: num k (x / 256)
def unnum : List Nat → Nat
  | [] => 0
  | b :: r => b + 256 * unnum r
theorem num_length (k : Nat) : ∀ x, (num k x).length = k := by
  induction k with
  | zero => intro x; rfl
  | succ k ih => intro x; simp [num, ih]
theorem num_bytes (k : Nat) : ∀ x, ∀ y ∈ num k x, y < 256 := by
  induction k with
  | zero => intro x y h; cases h
  | succ k ih =>
    intro x y h
    rcases List.mem_cons.1 h with rfl | h
    · omega
    · exact ih _ y h
theorem num_snoc (k : Nat) : ∀ x, num (k + 1) x = num k x ++ [x / 256 ^ k % 256] := by
  induction k with
  | zero => intro x; simp [num]
  | succ k ih =>
    intro x
    rw [num, ih (x / 256)]
    simp only [num, List.cons_append]
    rw [Nat.div_div_eq_div_mul, Nat.pow_succ, Nat.mul_comm]
theorem unnum_num (k : Nat) : ∀ x, unnum (num k x) = x % 256 ^ k := by
  induction k with
  | zero => intro x; simp [num, unnum, Nat.mod_one]
  | succ k ih =>
    intro x
    simp only [num, unnum, ih]
    rw [Nat.pow_succ, Nat.mul_comm (256 ^ k) 256, Nat.mod_mul]
theorem unnum_num' {k x : Nat} (h : x < 256 ^ k) : unnum (num k x) = x := by rw [unnum_num, Nat.mod_eq_of_lt h]
theorem unnum_append (a b : List Nat) : unnum (a ++ b) = unnum a + 256 ^ a.length * unnum b := by
  induction a with
  | nil => simp [unnum]
  | cons x r ih =>
    simp only [List.cons_append, unnum, ih, List.length_cons, Nat.pow_succ]
    rw [Nat.mul_add, Nat.add_assoc, Nat.mul_comm (256 ^ r.length) 256, Nat.mul_assoc]
theorem unnum_lt (a : List Nat) (h : ∀ x ∈ a, x < 256) : unnum a < 256 ^ a.length := by
  induction a with
  | nil => simp [unnum]
  | cons x r ih =>
    have h1 := ih (fun y hy => h y (by simp [hy]))
    have h2 := h x (by simp)
    simp only [unnum, List.length_cons, Nat.pow_succ]
    have h3 : 256 * unnum r + 256 ≤ 256 * 256 ^ r.length := by
      have := Nat.mul_le_mul_left 256 (Nat.succ_le_of_lt h1)
      rw [Nat.mul_succ] at this
      exact this
    rw [Nat.mul_comm (256 ^ r.length) 256]
    omega
theorem num_unnum (a : List Nat) (h : ∀ x ∈ a, x < 256) : num a.length (unnum a) = a := by
  induction a with
  | nil => rfl
  | cons x r ih =>
    have h2 := h x (by simp)
    simp only [unnum, List.length_cons, num]
    have e1 : (x + 256 * unnum r) % 256 = x := by omega
    have e2 : (x + 256 * unnum r) / 256 = unnum r := by omega
    rw [e1, e2, ih (fun y hy => h y (by simp [hy]))]
theorem unnum_snoc (a : List Nat) (c : Nat) : unnum (a ++ [c]) = unnum a + c * 256 ^ a.length := by
  rw [unnum_append]
  simp [unnum, Nat.mul_comm]
/-- One byte more, or'ed in. -/
theorem or_step {x c k : Nat} (hx : x < 256 ^ k) : x ||| (c * 256 ^ k) = x + c * 256 ^ k := by
  have e : 256 ^ k = 2 ^ (8 * k) := by rw [Nat.pow_mul]
  rw [e] at hx ⊢
  rw [Nat.or_comm, nat_join (8 * k) (c * 2 ^ (8 * k)) x (by simp) hx, Nat.add_comm]
theorem xor_xor (a b : Nat) : a ^^^ b ^^^ b = a := by rw [Nat.xor_assoc, Nat.xor_self, Nat.xor_zero]
theorem pow8 (k : Nat) (hk : k < 8) (c : Nat) (hc : c < 256) : c * 256 ^ k < 18446744073709551616 := by
  have h1 : 256 ^ k ≤ 256 ^ 7 := Nat.pow_le_pow_right (by omega) (by omega)
  have h2 : c * 256 ^ k ≤ 255 * 256 ^ 7 := Nat.mul_le_mul (by omega) h1
  have h3 : 255 * 256 ^ 7 < 18446744073709551616 := by decide
  omega
end Wal
end Go.Proofs.YtnogmgnbhcmajaaDoor
