/-
  The plain mathematics of layer 2, disk: sectors as lists of bytes, writes that wait, a flush, a crash that keeps some writes. · Plain arithmetic of CRC-32C, no program in it: one shift of the register, eight shifts, the register behind a list of bytes; that they are straight over xor and that no register but zero is shifted to zero; what happens within 32 bits is seen. · The plain mathematics of layer 3's numbers: so many bytes, the lowest first, and back.
-/
import Derived.Laws.BitsAllLaws
namespace Go.Proofs.YtkajneeihhobhaaGreat

/-- A sector that holds the text l: l and zeros behind it, 512 bytes. -/
def sec (l : List Nat) : List Nat := (l ++ List.replicate 512 0).take 512

theorem sec_length (l : List Nat) : (sec l).length = 512 := by
  unfold sec
  rw [List.length_take, List.length_append, List.length_replicate]
  omega
theorem sec_bytes {l : List Nat} (h : ∀ x ∈ l, x < 256) : ∀ x ∈ sec l, x < 256 := by
  intro x hx
  have := List.mem_of_mem_take hx
  rcases List.mem_append.1 this with h' | h'
  · exact h x h'
  · have := (List.mem_replicate.1 h').2
    omega
theorem sec_short {l : List Nat} (h : l.length ≤ 512) : sec l = l ++ List.replicate (512 - l.length) 0 := by
  unfold sec
  rw [List.take_append, List.take_of_length_le h, List.take_replicate]
  congr 2
  omega
theorem sec_full {l : List Nat} (h : l.length = 512) : sec l = l := by
  rw [sec_short (by omega), h]
  simp
theorem sec_sec (l : List Nat) : sec (sec l) = sec l := sec_full (sec_length l)

namespace Dsk

/-- The writes of w, one behind the other, over the sectors d. -/
def apply (w : List (Nat × List Nat)) (d : List (List Nat)) : List (List Nat) := w.foldl (fun s p => s.set p.1 p.2) d

/-- Those of the writes w that k keeps, over the sectors d. -/
def crashD : List (Nat × List Nat) → List Bool → List (List Nat) → List (List Nat)
  | [], _, d => d
  | p :: r, k, d => crashD r k.tail (if k.headD false = true then d.set p.1 p.2 else d)

theorem apply_length (w : List (Nat × List Nat)) : ∀ d, (apply w d).length = d.length := by
  induction w with
  | nil => intro d; rfl
  | cons p r ih => intro d; simp only [apply, List.foldl_cons] at ih ⊢; rw [ih]; simp
theorem apply_append (w v : List (Nat × List Nat)) (d : List (List Nat)) : apply (w ++ v) d = apply v (apply w d) := by simp [apply]
theorem apply_snoc (w : List (Nat × List Nat)) (p : Nat × List Nat) (d : List (List Nat)) : apply (w ++ [p]) d = (apply w d).set p.1 p.2 := by simp [apply]
theorem crashD_length (w : List (Nat × List Nat)) : ∀ k d, (crashD w k d).length = d.length := by
  induction w with
  | nil => intro k d; rfl
  | cons p r ih => intro k d; simp only [crashD]; rw [ih]; split <;> simp
theorem crashD_snoc (w : List (Nat × List Nat)) (p : Nat × List Nat) : ∀ k d, crashD (w ++ [p]) k d = if k.getD w.length false = true then (crashD w k d).set p.1 p.2 else crashD w k d := by
  induction w with
  | nil => intro k d; cases k <;> simp [crashD]
  | cons q r ih =>
    intro k d
    simp only [List.cons_append, crashD, List.length_cons]
    rw [ih]
    cases k <;> simp
theorem crashD_none (w : List (Nat × List Nat)) : ∀ d, crashD w [] d = d := by
  induction w with
  | nil => intro d; rfl
  | cons p r ih => intro d; simp [crashD, ih]

/-- Each text of bytes. -/
def BytesAll (d : List (List Nat)) : Prop := ∀ l ∈ d, ∀ x ∈ l, x < 256

theorem BytesAll.set {d : List (List Nat)} (h : BytesAll d) (i : Nat) {l : List Nat} (hl : ∀ x ∈ l, x < 256) : BytesAll (d.set i l) := fun m hm => by
  rcases List.mem_or_eq_of_mem_set hm with h' | rfl
  · exact h m h'
  · exact hl
theorem BytesAll.apply (w : List (Nat × List Nat)) : ∀ {d : List (List Nat)}, BytesAll d → (∀ p ∈ w, ∀ x ∈ p.2, x < 256) → BytesAll (Dsk.apply w d) := by
  induction w with
  | nil => intro d h _; exact h
  | cons p r ih => intro d h hw; simp only [Dsk.apply, List.foldl_cons]; exact ih (h.set _ (hw p (by simp))) (fun q hq => hw q (by simp [hq]))
theorem BytesAll.crashD (w : List (Nat × List Nat)) : ∀ {d : List (List Nat)} (k : List Bool), BytesAll d → (∀ p ∈ w, ∀ x ∈ p.2, x < 256) → BytesAll (Dsk.crashD w k d) := by
  induction w with
  | nil => intro d k h _; exact h
  | cons p r ih =>
    intro d k h hw
    simp only [Dsk.crashD]
    refine ih _ ?_ (fun q hq => hw q (by simp [hq]))
    split
    · exact h.set _ (hw p (by simp))
    · exact h
/-- Each text fits a sector. -/
def ShortAll (d : List (List Nat)) : Prop := ∀ l ∈ d, l.length ≤ 512
theorem ShortAll.set {d : List (List Nat)} (h : ShortAll d) (i : Nat) {l : List Nat} (hl : l.length ≤ 512) : ShortAll (d.set i l) := fun m hm => by
  rcases List.mem_or_eq_of_mem_set hm with h' | rfl
  · exact h m h'
  · exact hl
theorem ShortAll.apply (w : List (Nat × List Nat)) : ∀ {d : List (List Nat)}, ShortAll d → (∀ p ∈ w, p.2.length ≤ 512) → ShortAll (Dsk.apply w d) := by
  induction w with
  | nil => intro d h _; exact h
  | cons p r ih => intro d h hw; simp only [Dsk.apply, List.foldl_cons]; exact ih (h.set _ (hw p (by simp))) (fun q hq => hw q (by simp [hq]))
theorem ShortAll.crashD (w : List (Nat × List Nat)) : ∀ {d : List (List Nat)} (k : List Bool), ShortAll d → (∀ p ∈ w, p.2.length ≤ 512) → ShortAll (Dsk.crashD w k d) := by
  induction w with
  | nil => intro d k h _; exact h
  | cons p r ih =>
    intro d k h hw
    simp only [Dsk.crashD]
    refine ih _ ?_ (fun q hq => hw q (by simp [hq]))
    split
    · exact h.set _ (hw p (by simp))
    · exact h
theorem ShortAll.getD {d : List (List Nat)} (h : ShortAll d) (i : Nat) : (d.getD i []).length ≤ 512 := by
  rw [List.getD_eq_getElem?_getD]
  rcases Nat.lt_or_ge i d.length with hi | hi
  · rw [List.getElem?_eq_getElem hi]; exact h _ (List.getElem_mem hi)
  · rw [List.getElem?_eq_none hi]; exact Nat.zero_le _
theorem BytesAll.getD {d : List (List Nat)} (h : BytesAll d) (i : Nat) : ∀ x ∈ d.getD i [], x < 256 := by
  rw [List.getD_eq_getElem?_getD]
  rcases Nat.lt_or_ge i d.length with hi | hi
  · rw [List.getElem?_eq_getElem hi]; exact h _ (List.getElem_mem hi)
  · rw [List.getElem?_eq_none hi]; simp

/-- What a sector holds behind writes, if it is none of theirs. -/
theorem apply_other (w : List (Nat × List Nat)) (i : Nat) : ∀ d, (∀ p ∈ w, p.1 ≠ i) → (apply w d)[i]? = d[i]? := by
  induction w with
  | nil => intro d _; rfl
  | cons p r ih =>
    intro d h
    simp only [apply, List.foldl_cons] at ih ⊢
    rw [ih _ (fun q hq => h q (by simp [hq])), List.getElem?_set]
    rw [if_neg (h p (by simp))]
theorem crashD_other (w : List (Nat × List Nat)) (i : Nat) : ∀ k d, (∀ p ∈ w, p.1 ≠ i) → (crashD w k d)[i]? = d[i]? := by
  induction w with
  | nil => intro k d _; rfl
  | cons p r ih =>
    intro k d h
    simp only [crashD]
    rw [ih _ _ (fun q hq => h q (by simp [hq]))]
    split
    · rw [List.getElem?_set, if_neg (h p (by simp))]
    · rfl

/-- The sectors of the writes w are set to what e holds. -/
def resee (w : List (Nat × List Nat)) (e : List (List Nat)) (s : List (List Nat)) : List (List Nat) := w.foldl (fun s p => s.set p.1 (e.getD p.1 [])) s
theorem resee_length (w : List (Nat × List Nat)) (e : List (List Nat)) : ∀ s, (resee w e s).length = s.length := by
  induction w with
  | nil => intro s; rfl
  | cons p r ih => intro s; simp only [resee, List.foldl_cons] at ih ⊢; rw [ih]; simp
theorem resee_snoc (w : List (Nat × List Nat)) (p : Nat × List Nat) (e s : List (List Nat)) : resee (w ++ [p]) e s = (resee w e s).set p.1 (e.getD p.1 []) := by simp [resee]
theorem resee_at (w : List (Nat × List Nat)) (e : List (List Nat)) (i : Nat) : ∀ s, s.length = e.length → ((∃ p ∈ w, p.1 = i) ∨ s[i]? = e[i]?) → (resee w e s)[i]? = e[i]? := by
  induction w with
  | nil => intro s _ h; rcases h with ⟨p, hp, _⟩ | h; cases hp; exact h
  | cons p r ih =>
    intro s hl h
    simp only [resee, List.foldl_cons] at ih ⊢
    refine ih _ (by simp [hl]) ?_
    by_cases hp : p.1 = i
    · right
      rw [List.getElem?_set, if_pos hp]
      subst hp
      rw [List.getD_eq_getElem?_getD]
      rcases Nat.lt_or_ge p.1 e.length with hi | hi
      · rw [if_pos (by omega), List.getElem?_eq_getElem hi]; rfl
      · rw [if_neg (by omega), List.getElem?_eq_none hi]
    · rcases h with ⟨q, hq, hqi⟩ | h
      · rcases List.mem_cons.1 hq with rfl | hq
        · exact absurd hqi hp
        · exact .inl ⟨q, hq, hqi⟩
      · right; rw [List.getElem?_set, if_neg hp]; exact h
/-- Behind a crash what is read is what is durable. -/
theorem resee_crash (w : List (Nat × List Nat)) (k : List Bool) (d : List (List Nat)) : resee w (crashD w k d) (apply w d) = crashD w k d := by
  apply List.ext_getElem?
  intro i
  refine resee_at w _ i _ (by rw [apply_length, crashD_length]) ?_
  by_cases h : ∃ p ∈ w, p.1 = i
  · exact .inl h
  · right
    have h' : ∀ p ∈ w, p.1 ≠ i := fun p hp e => h ⟨p, hp, e⟩
    rw [apply_other w i d h', crashD_other w i k d h']

/-- A disk: what is durable, what waits, the fuel (below 0: no number), whether it is dead. -/
structure DM where
  dur : List (List Nat)
  wait : List (Nat × List Nat)
  fuel : Int
  dead : Bool

namespace DM
def n (m : DM) : Nat := m.dur.length
def seen (m : DM) : List (List Nat) := apply m.wait m.dur
theorem seen_length (m : DM) : m.seen.length = m.dur.length := apply_length _ _

structure Good (m : DM) : Prop where
  least : 1 ≤ m.dur.length
  most : m.dur.length ≤ 4096
  bytes : BytesAll m.dur
  short : ShortAll m.dur
  at_ : ∀ p ∈ m.wait, p.1 < m.dur.length
  wbytes : ∀ p ∈ m.wait, ∀ x ∈ p.2, x < 256
  wshort : ∀ p ∈ m.wait, p.2.length ≤ 512
  f0 : -1 ≤ m.fuel
  f1 : m.fuel ≤ 9223372036854775807

theorem Good.seen_bytes {m : DM} (h : m.Good) : BytesAll m.seen := h.bytes.apply _ h.wbytes
theorem Good.seen_short {m : DM} (h : m.Good) : ShortAll m.seen := h.short.apply _ h.wshort

/-- One of the fuel is used; or the disk dies. -/
def burn (m : DM) : DM := if m.fuel = -1 then m else if m.fuel = 0 then { m with dead := true } else { m with fuel := m.fuel - 1 }
/-- Can one more write or flush be done? -/
def burns (m : DM) : Bool := !m.dead && m.fuel != 0

def writeErr (m : DM) (i : Int) (len : Nat) : Int := if m.dead then 10 else if ¬ (0 ≤ i ∧ i < m.dur.length) ∨ 512 < len then 1 else if m.fuel = 0 then 10 else 0
def write (m : DM) (i : Int) (l : List Nat) : DM :=
  if m.dead then m else if ¬ (0 ≤ i ∧ i < m.dur.length) ∨ 512 < l.length then m else if m.fuel = 0 then { m with dead := true }
  else { m.burn with wait := m.wait ++ [(i.toNat, l)] }
def flushErr (m : DM) : Int := if m.dead then 10 else if m.fuel = 0 then 10 else 0
def flush (m : DM) : DM := if m.dead then m else if m.fuel = 0 then { m with dead := true } else { m.burn with dur := m.seen, wait := [] }
def crash (m : DM) (k : List Bool) : DM := { dur := crashD m.wait k m.dur, wait := [], fuel := -1, dead := false }
def setFuel (m : DM) (x : Int) : DM := { m with fuel := max x (-1) }
def readErr (m : DM) (i : Int) : Int := if m.dead then 10 else if ¬ (0 ≤ i ∧ i < m.dur.length) then 1 else 0
def durErr (m : DM) (i : Int) : Int := if ¬ (0 ≤ i ∧ i < m.dur.length) then 1 else 0

theorem Good.burn {m : DM} (h : m.Good) : m.burn.Good := by
  unfold DM.burn
  have := h.f0
  split
  · exact h
  · split
    · exact ⟨h.least, h.most, h.bytes, h.short, h.at_, h.wbytes, h.wshort, h.f0, h.f1⟩
    · exact ⟨h.least, h.most, h.bytes, h.short, h.at_, h.wbytes, h.wshort, by show -1 ≤ m.fuel - 1; omega, by have := h.f1; show m.fuel - 1 ≤ _; omega⟩
theorem burn_dur (m : DM) : m.burn.dur = m.dur := by unfold burn; split; rfl; split <;> rfl
theorem burn_wait (m : DM) : m.burn.wait = m.wait := by unfold burn; split; rfl; split <;> rfl
theorem Good.write {m : DM} (h : m.Good) (i : Int) {l : List Nat} (hl : ∀ x ∈ l, x < 256) : (m.write i l).Good := by
  unfold DM.write
  split
  · exact h
  · split
    · exact h
    · split
      · exact ⟨h.least, h.most, h.bytes, h.short, h.at_, h.wbytes, h.wshort, h.f0, h.f1⟩
      · rename_i hi hf
        have hb := h.burn
        have hd := m.burn_dur
        refine ⟨hb.least, hb.most, hb.bytes, hb.short, fun p hp => ?_, fun p hp => ?_, fun p hp => ?_, hb.f0, hb.f1⟩
        · show p.1 < m.burn.dur.length
          rw [hd]
          rcases List.mem_append.1 hp with hp | hp
          · exact h.at_ p hp
          · have : p = (i.toNat, l) := by simpa using hp
            subst this
            show i.toNat < _
            have h1 : 0 ≤ i ∧ i < m.dur.length := Decidable.byContradiction fun c => hi (.inl c)
            omega
        · rcases List.mem_append.1 hp with hp | hp
          · exact h.wbytes p hp
          · have : p = (i.toNat, l) := by simpa using hp
            subst this
            exact hl
        · rcases List.mem_append.1 hp with hp | hp
          · exact h.wshort p hp
          · have : p = (i.toNat, l) := by simpa using hp
            subst this
            show l.length ≤ 512
            have h1 : ¬ 512 < l.length := fun c => hi (.inr c)
            omega
theorem Good.flush {m : DM} (h : m.Good) : m.flush.Good := by
  unfold DM.flush
  split
  · exact h
  · split
    · exact ⟨h.least, h.most, h.bytes, h.short, h.at_, h.wbytes, h.wshort, h.f0, h.f1⟩
    · have hb := h.burn
      exact ⟨by show 1 ≤ m.seen.length; rw [seen_length]; exact h.least, by show m.seen.length ≤ _; rw [seen_length]; exact h.most, h.seen_bytes, h.seen_short, fun p hp => (by cases hp), fun p hp => (by cases hp), fun p hp => (by cases hp), hb.f0, hb.f1⟩
theorem Good.crash {m : DM} (h : m.Good) (k : List Bool) : (m.crash k).Good :=
  ⟨by show 1 ≤ (crashD _ _ _).length; rw [crashD_length]; exact h.least, by show (crashD _ _ _).length ≤ _; rw [crashD_length]; exact h.most, h.bytes.crashD _ k h.wbytes, h.short.crashD _ k h.wshort,
    fun p hp => (by cases hp), fun p hp => (by cases hp), fun p hp => (by cases hp), by show (-1 : Int) ≤ -1; omega, by show (-1 : Int) ≤ _; omega⟩
theorem Good.setFuel {m : DM} (h : m.Good) {x : Int} (hx : x ≤ 9223372036854775807) : (m.setFuel x).Good :=
  ⟨h.least, h.most, h.bytes, h.short, h.at_, h.wbytes, h.wshort, by show -1 ≤ max x (-1); omega, by show max x (-1) ≤ _; omega⟩
end DM

/-- A new disk of n sectors. -/
def fresh (n : Nat) : DM := { dur := List.replicate n [], wait := [], fuel := -1, dead := false }
theorem fresh_good {n : Nat} (h1 : 1 ≤ n) (h2 : n ≤ 4096) : (fresh n).Good :=
  ⟨by simpa [fresh] using h1, by simpa [fresh] using h2, fun l hl => (by have : l = [] := (List.mem_replicate.1 hl).2; subst this; simp), fun l hl => (by have : l = [] := (List.mem_replicate.1 hl).2; subst this; simp), fun p hp => (by cases hp), fun p hp => (by cases hp), fun p hp => (by cases hp), by show (-1 : Int) ≤ -1; omega, by show (-1 : Int) ≤ _; omega⟩
end Dsk
end Go.Proofs.YtkajneeihhobhaaGreat

namespace Go.Proofs.YtkajneeihhobhaaGreat
namespace Crc

def P : Nat := 2197175160
/-- One shift of the register. -/
def S (r : Nat) : Nat := (r >>> 1) ^^^ (if r % 2 = 1 then P else 0)
/-- k shifts. -/
def Sn : Nat → Nat → Nat
  | 0, r => r
  | k + 1, r => Sn k (S r)
/-- The register behind a list of bytes. -/
def run (r : Nat) (l : List Nat) : Nat := l.foldl (fun r b => Sn 8 (r ^^^ b)) r
def inv (r : Nat) : Nat := r ^^^ 4294967295
/-- The sum of some bytes, gone on from a sum. -/
def upd (s : Nat) (l : List Nat) : Nat := inv (run (inv s) l)
def sum (l : List Nat) : Nat := upd 0 l

theorem xor_lt {a b : Nat} (ha : a < 4294967296) (hb : b < 4294967296) : a ^^^ b < 4294967296 := by
  have := Nat.xor_lt_two_pow (n := 32) (show a < 2 ^ 32 by omega) (show b < 2 ^ 32 by omega)
  omega
theorem P_lt : P < 4294967296 := by decide
theorem S_even {r : Nat} (h : r % 2 = 0) : S r = r / 2 := by
  unfold S; rw [if_neg (by omega), Nat.xor_zero, Nat.shiftRight_succ, Nat.shiftRight_zero]
theorem S_odd {r : Nat} (h : r % 2 = 1) : S r = (r / 2) ^^^ P := by
  unfold S; rw [if_pos h, Nat.shiftRight_succ, Nat.shiftRight_zero]
theorem S_lt {r : Nat} (h : r < 4294967296) : S r < 4294967296 := by
  rcases Nat.mod_two_eq_zero_or_one r with e | e
  · rw [S_even e]; omega
  · rw [S_odd e]; exact xor_lt (by omega) P_lt
theorem S_zero : S 0 = 0 := by decide
theorem S_xor (a b : Nat) : S (a ^^^ b) = S a ^^^ S b := by
  have hm : (a ^^^ b) % 2 = (a + b) % 2 := by
    have h := Nat.xor_mod_two_pow (a := a) (b := b) (n := 1)
    have e2 : (2 : Nat) ^ 1 = 2 := rfl
    rw [e2] at h
    rw [h]
    rcases Nat.mod_two_eq_zero_or_one a with ea | ea <;> rcases Nat.mod_two_eq_zero_or_one b with eb | eb <;> rw [ea, eb]
    · show 0 = _; omega
    · show 1 = _; omega
    · show 1 = _; omega
    · show 0 = _; omega
  unfold S
  rw [Nat.shiftRight_xor_distrib, hm]
  rcases Nat.mod_two_eq_zero_or_one a with ea | ea <;> rcases Nat.mod_two_eq_zero_or_one b with eb | eb
  · rw [if_neg (by omega), if_neg (by omega), if_neg (by omega)]; simp
  · rw [if_pos (by omega), if_neg (by omega), if_pos (by omega)]; simp [Nat.xor_assoc]
  · rw [if_pos (by omega), if_pos (by omega), if_neg (by omega)]
    simp only [Nat.xor_zero]; rw [Nat.xor_assoc, Nat.xor_comm (b >>> 1), ← Nat.xor_assoc]
  · rw [if_neg (by omega), if_pos (by omega), if_pos (by omega)]
    rw [Nat.xor_zero, Nat.xor_assoc, Nat.xor_comm P, Nat.xor_assoc (b >>> 1), Nat.xor_self, Nat.xor_zero]
theorem S_eq_zero {r : Nat} (h : r < 4294967296) (hs : S r = 0) : r = 0 := by
  rcases Nat.mod_two_eq_zero_or_one r with e | e
  · rw [S_even e] at hs; omega
  · rw [S_odd e] at hs
    have h2 : r / 2 = P := by
      have : (r / 2 ^^^ P) ^^^ P = 0 ^^^ P := by rw [hs]
      rwa [Nat.xor_assoc, Nat.xor_self, Nat.xor_zero, Nat.zero_xor] at this
    unfold P at h2; omega

theorem Sn_lt (k : Nat) : ∀ {r : Nat}, r < 4294967296 → Sn k r < 4294967296 := by
  induction k with
  | zero => intro r h; exact h
  | succ k ih => intro r h; exact ih (S_lt h)
theorem Sn_succ (k r : Nat) : Sn (k + 1) r = S (Sn k r) := by
  induction k generalizing r with
  | zero => rfl
  | succ k ih => exact ih (S r)
theorem Sn_add (j k r : Nat) : Sn (j + k) r = Sn k (Sn j r) := by
  induction j generalizing r with
  | zero => simp [Sn]
  | succ j ih => rw [show j + 1 + k = (j + k) + 1 by omega]; exact ih (S r)
theorem Sn_zero (k : Nat) : Sn k 0 = 0 := by
  induction k with
  | zero => rfl
  | succ k ih => show Sn k (S 0) = 0; rw [S_zero, ih]
theorem Sn_xor (k a b : Nat) : Sn k (a ^^^ b) = Sn k a ^^^ Sn k b := by
  induction k generalizing a b with
  | zero => rfl
  | succ k ih => show Sn k (S (a ^^^ b)) = _; rw [S_xor, ih]; rfl
theorem Sn_eq_zero (k : Nat) : ∀ {r : Nat}, r < 4294967296 → Sn k r = 0 → r = 0 := by
  induction k with
  | zero => intro r _ h; exact h
  | succ k ih => intro r h hs; exact S_eq_zero h (ih (S_lt h) hs)

theorem run_nil (r : Nat) : run r [] = r := rfl
theorem run_cons (r b : Nat) (l : List Nat) : run r (b :: l) = run (Sn 8 (r ^^^ b)) l := rfl
theorem run_append (r : Nat) (l m : List Nat) : run r (l ++ m) = run (run r l) m := by simp [run]
theorem run_snoc (r b : Nat) (l : List Nat) : run r (l ++ [b]) = Sn 8 (run r l ^^^ b) := by simp [run]
theorem run_lt (l : List Nat) : ∀ {r : Nat}, r < 4294967296 → (∀ b ∈ l, b < 256) → run r l < 4294967296 := by
  induction l with
  | nil => intro r h _; exact h
  | cons b l ih =>
    intro r h hb
    have h0 := hb b (by simp)
    exact ih (Sn_lt 8 (xor_lt h (by omega))) fun x hx => hb x (by simp [hx])
theorem inv_lt {r : Nat} (h : r < 4294967296) : inv r < 4294967296 := xor_lt h (by decide)
theorem inv_inv (r : Nat) : inv (inv r) = r := by unfold inv; rw [Nat.xor_assoc, Nat.xor_self, Nat.xor_zero]
theorem upd_lt {s : Nat} {l : List Nat} (h : s < 4294967296) (hb : ∀ b ∈ l, b < 256) : upd s l < 4294967296 := inv_lt (run_lt l (inv_lt h) hb)
theorem sum_lt {l : List Nat} (hb : ∀ b ∈ l, b < 256) : sum l < 4294967296 := upd_lt (by decide) hb
theorem upd_append (s : Nat) (l m : List Nat) : upd (upd s l) m = upd s (l ++ m) := by
  unfold upd; rw [inv_inv, run_append]
theorem upd_nil (s : Nat) : upd s [] = s := inv_inv s

/-- The bytes of two texts, mixed. -/
def mix (l m : List Nat) : List Nat := List.zipWith (· ^^^ ·) l m
theorem xor4 (a b c d : Nat) : (a ^^^ b) ^^^ (c ^^^ d) = (a ^^^ c) ^^^ (b ^^^ d) := by
  rw [Nat.xor_assoc, ← Nat.xor_assoc b, Nat.xor_comm b c, Nat.xor_assoc c, ← Nat.xor_assoc]
theorem run_mix (l : List Nat) : ∀ (m : List Nat) (r s : Nat), l.length = m.length → run (r ^^^ s) (mix l m) = run r l ^^^ run s m := by
  induction l with
  | nil => intro m r s h; cases m with
    | nil => rfl
    | cons _ _ => simp at h
  | cons a l ih => intro m r s h; cases m with
    | nil => simp at h
    | cons b m =>
      show run (Sn 8 ((r ^^^ s) ^^^ (a ^^^ b))) (mix l m) = _
      rw [xor4, Sn_xor, ih m _ _ (by simpa using h)]
      rfl
theorem inv_xor (a b : Nat) : inv a ^^^ inv b = a ^^^ b := by
  unfold inv; rw [xor4, Nat.xor_self, Nat.xor_zero]
theorem run_zeros (n : Nat) : ∀ r, run r (List.replicate n 0) = Sn (8 * n) r := by
  induction n with
  | zero => intro r; rfl
  | succ n ih =>
    intro r
    rw [List.replicate_succ, run_cons, Nat.xor_zero, ih, show 8 * (n + 1) = 8 + 8 * n by omega, Sn_add]
theorem mix_zeros (l : List Nat) : mix l (List.replicate l.length 0) = l := by
  induction l with
  | nil => rfl
  | cons a l ih => show (a ^^^ 0) :: mix l (List.replicate l.length 0) = _; rw [ih, Nat.xor_zero]
/-- Sums are straight. -/
theorem sum_mix (l m : List Nat) (h : l.length = m.length) : sum (mix l m) ^^^ sum (List.replicate l.length 0) = sum l ^^^ sum m := by
  unfold sum upd
  rw [inv_xor, inv_xor]
  have hl : (mix l m).length = l.length := by simp [mix, h]
  have e1 := run_mix (mix l m) (List.replicate l.length 0) (inv 0) (inv 0) (by simp [hl])
  have e2 := run_mix l m (inv 0) (inv 0) h
  rw [← e1, ← e2, ← hl, mix_zeros]
/-- Two texts of one length have one sum just where the register that begins at zero comes to zero over what they differ by. -/
theorem sum_eq_iff (l m : List Nat) (h : l.length = m.length) : sum l = sum m ↔ run 0 (mix l m) = 0 := by
  have e := run_mix l m (inv 0) (inv 0) h
  rw [Nat.xor_self] at e
  have e3 : sum l ^^^ sum m = run (inv 0) l ^^^ run (inv 0) m := by unfold sum upd; rw [inv_xor]
  rw [e, ← e3]
  constructor
  · intro h; rw [h, Nat.xor_self]
  · intro h
    have : (sum l ^^^ sum m) ^^^ sum m = 0 ^^^ sum m := by rw [h]
    rwa [Nat.xor_assoc, Nat.xor_self, Nat.xor_zero, Nat.zero_xor] at this
theorem mix_self (l : List Nat) : mix l l = List.replicate l.length 0 := by
  induction l with
  | nil => rfl
  | cons a l ih => show (a ^^^ a) :: mix l l = _; rw [ih, Nat.xor_self]; rfl
/-- One byte turned: what the two texts differ by. -/
theorem mix_set (l : List Nat) : ∀ (k y : Nat), k < l.length → mix (l.set k (l.getD k 0 ^^^ y)) l = List.replicate k 0 ++ y :: List.replicate (l.length - k - 1) 0 := by
  induction l with
  | nil => intro k y h; simp at h
  | cons a l ih =>
    intro k y h
    cases k with
    | zero =>
      show ((a ^^^ y) ^^^ a) :: mix l l = _
      rw [mix_self, Nat.xor_comm a y, Nat.xor_assoc, Nat.xor_self, Nat.xor_zero]
      simp
    | succ k =>
      show (a ^^^ a) :: mix (l.set k (l.getD k 0 ^^^ y)) l = _
      rw [ih k y (by simpa using h), Nat.xor_self, List.replicate_succ]
      simp
theorem sum_set (l : List Nat) (k y : Nat) (h : k < l.length) (hy0 : 0 < y) (hy : y < 4294967296) : sum (l.set k (l.getD k 0 ^^^ y)) ≠ sum l := by
  intro e
  rw [sum_eq_iff _ _ (by simp), mix_set l k y h, run_append, run_zeros, Sn_zero, run_cons, Nat.zero_xor, run_zeros] at e
  have := Sn_eq_zero _ (Sn_lt 8 hy) e
  have := Sn_eq_zero _ hy this
  omega
end Crc
end Go.Proofs.YtkajneeihhobhaaGreat

namespace Go.Proofs.YtkajneeihhobhaaGreat
namespace Wal
/-- k bytes of x, the lowest first. -/
def num : Nat → Nat → List Nat
  | 0, _ => []
  | k + 1, x => x % 256 :: num k (x / 256)
def unnum : List Nat → Nat
  | [] => 0
  | b :: r => b + 256 * unnum r
theorem num_length (k : Nat) : ∀ x, (num k x).length = k := by
  induction k with
  | zero => intro x; rfl
  | succ k ih => intro x; simp [num, ih]
theorem num_bytes (k : Nat) : ∀ x, ∀ y ∈ num k x, y < 256 := by
  induction k with
  | zero => intro x y h; cases h
  | succ k ih =>
    intro x y h
    rcases List.mem_cons.1 h with rfl | h
    · omega
    · exact ih _ y h
theorem num_snoc (k : Nat) : ∀ x, num (k + 1) x = num k x ++ [x / 256 ^ k % 256] := by
  induction k with
  | zero => intro x; simp [num]
  | succ k ih =>
    intro x
    rw [num, ih (x / 256)]
    simp only [num, List.cons_append]
    rw [Nat.div_div_eq_div_mul, Nat.pow_succ, Nat.mul_comm]
theorem unnum_num (k : Nat) : ∀ x, unnum (num k x) = x % 256 ^ k := by
  induction k with
  | zero => intro x; simp [num, unnum, Nat.mod_one]
  | succ k ih =>
    intro x
    simp only [num, unnum, ih]
    rw [Nat.pow_succ, Nat.mul_comm (256 ^ k) 256, Nat.mod_mul]
theorem unnum_num' {k x : Nat} (h : x < 256 ^ k) : unnum (num k x) = x := by rw [unnum_num, Nat.mod_eq_of_lt h]
theorem unnum_append (a b : List Nat) : unnum (a ++ b) = unnum a + 256 ^ a.length * unnum b := by
  induction a with
  | nil => simp [unnum]
  | cons x r ih =>
    simp only [List.cons_append, unnum, ih, List.length_cons, Nat.pow_succ]
    rw [Nat.mul_add, Nat.add_assoc, Nat.mul_comm (256 ^ r.length) 256, Nat.mul_assoc]
theorem unnum_lt (a : List Nat) (h : ∀ x ∈ a, x < 256) : unnum a < 256 ^ a.length := by
  induction a with
  | nil => simp [unnum]
  | cons x r ih =>
    have h1 := ih (fun y hy => h y (by simp [hy]))
    have h2 := h x (by simp)
    simp only [unnum, List.length_cons, Nat.pow_succ]
    have h3 : 256 * unnum r + 256 ≤ 256 * 256 ^ r.length := by
      have := Nat.mul_le_mul_left 256 (Nat.succ_le_of_lt h1)
      rw [Nat.mul_succ] at this
      exact this
    rw [Nat.mul_comm (256 ^ r.length) 256]
    omega
theorem num_unnum (a : List Nat) (h : ∀ x ∈ a, x < 256) : num a.length (unnum a) = a := by
  induction a with
  | nil => rfl
  | cons x r ih =>
    have h2 := h x (by simp)
    simp only [unnum, List.length_cons, num]
    have e1 : (x + 256 * unnum r) % 256 = x := by omega
    have e2 : (x + 256 * unnum r) / 256 = unnum r := by omega
    rw [e1, e2, ih (fun y hy => h y (by simp [hy]))]
theorem unnum_snoc (a : List Nat) (c : Nat) : unnum (a ++ [c]) = unnum a + c * 256 ^ a.length := by
  rw [unnum_append]
  simp [unnum, Nat.mul_comm]
/-- One byte more, or'ed in. -/
theorem or_step {x c k : Nat} (hx : x < 256 ^ k) : x ||| (c * 256 ^ k) = x + c * 256 ^ k := by
  have e : 256 ^ k = 2 ^ (8 * k) := by rw [Nat.pow_mul]
  rw [e] at hx ⊢
  rw [Nat.or_comm, nat_join (8 * k) (c * 2 ^ (8 * k)) x (by simp) hx, Nat.add_comm]
theorem xor_xor (a b : Nat) : a ^^^ b ^^^ b = a := by rw [Nat.xor_assoc, Nat.xor_self, Nat.xor_zero]
theorem pow8 (k : Nat) (hk : k < 8) (c : Nat) (hc : c < 256) : c * 256 ^ k < 18446744073709551616 := by
  have h1 : 256 ^ k ≤ 256 ^ 7 := Nat.pow_le_pow_right (by omega) (by omega)
  have h2 : c * 256 ^ k ≤ 255 * 256 ^ 7 := Nat.mul_le_mul (by omega) h1
  have h3 : 255 * 256 ^ 7 < 18446744073709551616 := by decide
  omega
end Wal
end Go.Proofs.YtkajneeihhobhaaGreat
