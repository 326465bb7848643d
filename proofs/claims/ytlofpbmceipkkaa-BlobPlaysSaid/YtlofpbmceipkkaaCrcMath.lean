/-
  Plain arithmetic of CRC-32C, no program in it: one shift of the register, eight shifts, the register behind a list of bytes; that they are straight over xor and that no register but zero is shifted to zero; what happens within 32 bits is seen.
-/
namespace Go.Proofs.Ytlofpbmceipkkaa
namespace Crc

def P : Nat := 2197175160
/-- One shift of the register. -/
def S (r : Nat) : Nat := (r >>> 1) ^^^ (if r % 2 = 1 then P else 0)
/-- k shifts. -/
def Sn : Nat → Nat → Nat
  | 0, r => r
  | k + 1, r => Sn k (S r)
/-- The register behind a list of bytes. -/
def run (r : Nat) (l : List Nat) : Nat := l.foldl (fun r b => Sn 8 (r ^^^ b)) r
def inv (r : Nat) : Nat := r ^^^ 4294967295
/-- The sum of some bytes, gone on from a sum. -/
def upd (s : Nat) (l : List Nat) : Nat := inv (run (inv s) l)
def sum (l : List Nat) : Nat := upd 0 l

theorem xor_lt {a b : Nat} (ha : a < 4294967296) (hb : b < 4294967296) : a ^^^ b < 4294967296 := by
  have := Nat.xor_lt_two_pow (n := 32) (show a < 2 ^ 32 by omega) (show b < 2 ^ 32 by omega)
  omega
theorem P_lt : P < 4294967296 := by decide
theorem S_even {r : Nat} (h : r % 2 = 0) : S r = r / 2 := by
  unfold S; rw [if_neg (by omega), Nat.xor_zero, Nat.shiftRight_succ, Nat.shiftRight_zero]
theorem S_odd {r : Nat} (h : r % 2 = 1) : S r = (r / 2) ^^^ P := by
  unfold S; rw [if_pos h, Nat.shiftRight_succ, Nat.shiftRight_zero]
theorem S_lt {r : Nat} (h : r < 4294967296) : S r < 4294967296 := by
  rcases Nat.mod_two_eq_zero_or_one r with e | e
  · rw [S_even e]; omega
  · rw [S_odd e]; exact xor_lt (by omega) P_lt
theorem S_zero : S 0 = 0 := by decide
theorem S_xor (a b : Nat) : S (a ^^^ b) = S a ^^^ S b := by
  have hm : (a ^^^ b) % 2 = (a + b) % 2 := by
    have h := Nat.xor_mod_two_pow (a := a) (b := b) (n := 1)
    have e2 : (2 : Nat) ^ 1 = 2 := rfl
    rw [e2] at h
    rw [h]
    rcases Nat.mod_two_eq_zero_or_one a with ea | ea <;> rcases Nat.mod_two_eq_zero_or_one b with eb | eb <;> rw [ea, eb]
    · show 0 = _; omega
    · show 1 = _; omega
    · show 1 = _; omega
    · show 0 = _; omega
  unfold S
  rw [Nat.shiftRight_xor_distrib, hm]
  rcases Nat.mod_two_eq_zero_or_one a with ea | ea <;> rcases Nat.mod_two_eq_zero_or_one b with eb | eb
  · rw [if_neg (by omega), if_neg (by omega), if_neg (by omega)]; simp
  · rw [if_pos (by omega), if_neg (by omega), if_pos (by omega)]; simp [Nat.xor_assoc]
  · rw [if_pos (by omega), if_pos (by omega), if_neg (by omega)]
    simp only [Nat.xor_zero]; rw [Nat.xor_assoc, Nat.xor_comm (b >>> 1), ← Nat.xor_assoc]
  · rw [if_neg (by omega), if_pos (by omega), if_pos (by omega)]
    rw [Nat.xor_zero, Nat.xor_assoc, Nat.xor_comm P, Nat.xor_assoc (b >>> 1), Nat.xor_self, Nat.xor_zero]
theorem S_eq_zero {r : Nat} (h : r < 4294967296) (hs : S r = 0) : r = 0 := by
  rcases Nat.mod_two_eq_zero_or_one r with e | e
  · rw [S_even e] at hs; omega
  · rw [S_odd e] at hs
    have h2 : r / 2 = P := by
      have : (r / 2 ^^^ P) ^^^ P = 0 ^^^ P := by rw [hs]
      rwa [Nat.xor_assoc, Nat.xor_self, Nat.xor_zero, Nat.zero_xor] at this
    unfold P at h2; omega

theorem Sn_lt (k : Nat) : ∀ {r : Nat}, r < 4294967296 → Sn k r < 4294967296 := by
  induction k with
  | zero => intro r h; exact h
  | succ k ih => intro r h; exact ih (S_lt h)
theorem Sn_succ (k r : Nat) : Sn (k + 1) r = S (Sn k r) := by
  induction k generalizing r with
  | zero => rfl
  | succ k ih => exact ih (S r)
theorem Sn_add (j k r : Nat) : Sn (j + k) r = Sn k (Sn j r) := by
  induction j generalizing r with
  | zero => simp [Sn]
  | succ j ih => rw [show j + 1 + k = (j + k) + 1 by omega]; exact ih (S r)
theorem Sn_zero (k : Nat) : Sn k 0 = 0 := by
  induction k with
  | zero => rfl
  | succ k ih => show Sn k (S 0) = 0; rw [S_zero, ih]
theorem Sn_xor (k a b : Nat) : Sn k (a ^^^ b) = Sn k a ^^^ Sn k b := by
  induction k generalizing a b with
  | zero => rfl
  | succ k ih => show Sn k (S (a ^^^ b)) = _; rw [S_xor, ih]; rfl
theorem Sn_eq_zero (k : Nat) : ∀ {r : Nat}, r < 4294967296 → Sn k r = 0 → r = 0 := by
  induction k with
  | zero => intro r _ h; exact h
  | succ k ih => intro r h hs; exact S_eq_zero h (ih (S_lt h) hs)

theorem run_nil (r : Nat) : run r [] = r := rfl
theorem run_cons (r b : Nat) (l : List Nat) : run r (b :: l) = run (Sn 8 (r ^^^ b)) l := rfl
theorem run_append (r : Nat) (l m : List Nat) : run r (l ++ m) = run (run r l) m := by simp [run]
theorem run_snoc (r b : Nat) (l : List Nat) : run r (l ++ [b]) = Sn 8 (run r l ^^^ b) := by simp [run]
theorem run_lt (l : List Nat) : ∀ {r : Nat}, r < 4294967296 → (∀ b ∈ l, b < 256) → run r l < 4294967296 := by
  induction l with
  | nil => intro r h _; exact h
  | cons b l ih =>
    intro r h hb
    have h0 := hb b (by simp)
    exact ih (Sn_lt 8 (xor_lt h (by omega))) fun x hx => hb x (by simp [hx])
theorem inv_lt {r : Nat} (h : r < 4294967296) : inv r < 4294967296 := xor_lt h (by decide)
theorem inv_inv (r : Nat) : inv (inv r) = r := by unfold inv; rw [Nat.xor_assoc, Nat.xor_self, Nat.xor_zero]
theorem upd_lt {s : Nat} {l : List Nat} (h : s < 4294967296) (hb : ∀ b ∈ l, b < 256) : upd s l < 4294967296 := inv_lt (run_lt l (inv_lt h) hb)
theorem sum_lt {l : List Nat} (hb : ∀ b ∈ l, b < 256) : sum l < 4294967296 := upd_lt (by decide) hb
theorem upd_append (s : Nat) (l m : List Nat) : upd (upd s l) m = upd s (l ++ m) := by
  unfold upd; rw [inv_inv, run_append]
theorem upd_nil (s : Nat) : upd s [] = s := inv_inv s

/-- The bytes of two texts, mixed. -/
def mix (l m : List Nat) : List Nat := List.zipWith (· ^^^ ·) l m
theorem xor4 (a b c d : Nat) : (a ^^^ b) ^^^ (c ^^^ d) = (a ^^^ c) ^^^ (b ^^^ d) := by
  rw [Nat.xor_assoc, ← Nat.xor_assoc b, Nat.xor_comm b c, Nat.xor_assoc c, ← Nat.xor_assoc]
theorem run_mix (l : List Nat) : ∀ (m : List Nat) (r s : Nat), l.length = m.length → run (r ^^^ s) (mix l m) = run r l ^^^ run s m := by
  induction l with
  | nil => intro m r s h; cases m with
    | nil => rfl
    | cons _ _ => simp at h
  | cons a l ih => intro m r s h; cases m with
    | nil => simp at h
    | cons b m =>
      show run (Sn 8 ((r ^^^ s) ^^^ (a ^^^ b))) (mix l m) = _
      rw [xor4, Sn_xor, ih m _ _ (by simpa using h)]
      rfl
theorem inv_xor (a b : Nat) : inv a ^^^ inv b = a ^^^ b := by
  unfold inv; rw [xor4, Nat.xor_self, Nat.xor_zero]
theorem run_zeros (n : Nat) : ∀ r, run r (List.replicate n 0) = Sn (8 * n) r := by
  induction n with
  | zero => intro r; rfl
  | succ n ih =>
    intro r
    rw [List.replicate_succ, run_cons, Nat.xor_zero, ih, show 8 * (n + 1) = 8 + 8 * n by omega, Sn_add]
theorem mix_zeros (l : List Nat) : mix l (List.replicate l.length 0) = l := by
  induction l with
  | nil => rfl
  | cons a l ih => show (a ^^^ 0) :: mix l (List.replicate l.length 0) = _; rw [ih, Nat.xor_zero]
/-- Sums are straight. -/
theorem sum_mix (l m : List Nat) (h : l.length = m.length) : sum (mix l m) ^^^ sum (List.replicate l.length 0) = sum l ^^^ sum m := by
  unfold sum upd
  rw [inv_xor, inv_xor]
  have hl : (mix l m).length = l.length := by simp [mix, h]
  have e1 := run_mix (mix l m) (List.replicate l.length 0) (inv 0) (inv 0) (by simp [hl])
  have e2 := run_mix l m (inv 0) (inv 0) h
  rw [← e1, ← e2, ← hl, mix_zeros]
/-- Two texts of one length have one sum just where the register that begins at zero comes to zero over what they differ by. -/
theorem sum_eq_iff (l m : List Nat) (h : l.length = m.length) : sum l = sum m ↔ run 0 (mix l m) = 0 := by
  have e := run_mix l m (inv 0) (inv 0) h
  rw [Nat.xor_self] at e
  have e3 : sum l ^^^ sum m = run (inv 0) l ^^^ run (inv 0) m := by unfold sum upd; rw [inv_xor]
  rw [e, ← e3]
  constructor
  · intro h; rw [h, Nat.xor_self]
  · intro h
    have : (sum l ^^^ sum m) ^^^ sum m = 0 ^^^ sum m := by rw [h]
    rwa [Nat.xor_assoc, Nat.xor_self, Nat.xor_zero, Nat.zero_xor] at this
theorem mix_self (l : List Nat) : mix l l = List.replicate l.length 0 := by
  induction l with
  | nil => rfl
  | cons a l ih => show (a ^^^ a) :: mix l l = _; rw [ih, Nat.xor_self]; rfl
/-- One byte turned: what the two texts differ by. -/
theorem mix_set (l : List Nat) : ∀ (k y : Nat), k < l.length → mix (l.set k (l.getD k 0 ^^^ y)) l = List.replicate k 0 ++ y :: List.replicate (l.length - k - 1) 0 := by
  induction l with
  | nil => intro k y h; simp at h
  | cons a l ih =>
    intro k y h
    cases k with
    | zero =>
      show ((a ^^^ y) ^^^ a) :: mix l l = _
      rw [mix_self, Nat.xor_comm a y, Nat.xor_assoc, Nat.xor_self, Nat.xor_zero]
      simp
    | succ k =>
      show (a ^^^ a) :: mix (l.set k (l.getD k 0 ^^^ y)) l = _
      rw [ih k y (by simpa using h), Nat.xor_self, List.replicate_succ]
      simp
theorem sum_set (l : List Nat) (k y : Nat) (h : k < l.length) (hy0 : 0 < y) (hy : y < 4294967296) : sum (l.set k (l.getD k 0 ^^^ y)) ≠ sum l := by
  intro e
  rw [sum_eq_iff _ _ (by simp), mix_set l k y h, run_append, run_zeros, Sn_zero, run_cons, Nat.zero_xor, run_zeros] at e
  have := Sn_eq_zero _ (Sn_lt 8 hy) e
  have := Sn_eq_zero _ hy this
  omega
end Crc
end Go.Proofs.Ytlofpbmceipkkaa
