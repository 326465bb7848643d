/-
  The plain mathematics of layer 2, disk: sectors as lists of bytes, writes that wait, a flush, a crash that keeps some writes.
-/
namespace Go.Proofs.Ytaoldopkehbhkaa

/-- A sector that holds the text l: l and zeros behind it, 512 bytes. -/
def sec (l : List Nat) : List Nat := (l ++ List.replicate 512 0).take 512

theorem sec_length (l : List Nat) : (sec l).length = 512 := by
  unfold sec
  rw [List.length_take, List.length_append, List.length_replicate]
  omega
theorem sec_bytes {l : List Nat} (h : ∀ x ∈ l, x < 256) : ∀ x ∈ sec l, x < 256 := by
  intro x hx
  have := List.mem_of_mem_take hx
  rcases List.mem_append.1 this with h' | h'
  · exact h x h'
  · have := (List.mem_replicate.1 h').2
    omega
theorem sec_short {l : List Nat} (h : l.length ≤ 512) : sec l = l ++ List.replicate (512 - l.length) 0 := by
  unfold sec
  rw [List.take_append, List.take_of_length_le h, List.take_replicate]
  congr 2
  omega
theorem sec_full {l : List Nat} (h : l.length = 512) : sec l = l := by
  rw [sec_short (by omega), h]
  simp
theorem sec_sec (l : List Nat) : sec (sec l) = sec l := sec_full (sec_length l)

namespace Dsk

/-- The writes of w, one behind the other, over the sectors d. -/
def apply (w : List (Nat × List Nat)) (d : List (List Nat)) : List (List Nat) := w.foldl (fun s p => s.set p.1 p.2) d

/-- Those of the writes w that k keeps, over the sectors d. -/
def crashD : List (Nat × List Nat) → List Bool → List (List Nat) → List (List Nat)
  | [], _, d => d
  | p :: r, k, d => crashD r k.tail (if k.headD false = true then d.set p.1 p.2 else d)

theorem apply_length (w : List (Nat × List Nat)) : ∀ d, (apply w d).length = d.length := by
  induction w with
  | nil => intro d; rfl
  | cons p r ih => intro d; simp only [apply, List.foldl_cons] at ih ⊢; rw [ih]; simp
theorem apply_append (w v : List (Nat × List Nat)) (d : List (List Nat)) : apply (w ++ v) d = apply v (apply w d) := by simp [apply]
theorem apply_snoc (w : List (Nat × List Nat)) (p : Nat × List Nat) (d : List (List Nat)) : apply (w ++ [p]) d = (apply w d).set p.1 p.2 := by simp [apply]
theorem crashD_length (w : List (Nat × List Nat)) : ∀ k d, (crashD w k d).length = d.length := by
  induction w with
  | nil => intro k d; rfl
  | cons p r ih => intro k d; simp only [crashD]; rw [ih]; split <;> simp
theorem crashD_snoc (w : List (Nat × List Nat)) (p : Nat × List Nat) : ∀ k d, crashD (w ++ [p]) k d = if k.getD w.length false = true then (crashD w k d).set p.1 p.2 else crashD w k d := by
  induction w with
  | nil => intro k d; cases k <;> simp [crashD]
  | cons q r ih =>
    intro k d
    simp only [List.cons_append, crashD, List.length_cons]
    rw [ih]
    cases k <;> simp
theorem crashD_none (w : List (Nat × List Nat)) : ∀ d, crashD w [] d = d := by
  induction w with
  | nil => intro d; rfl
  | cons p r ih => intro d; simp [crashD, ih]

/-- Each text of bytes. -/
def BytesAll (d : List (List Nat)) : Prop := ∀ l ∈ d, ∀ x ∈ l, x < 256

theorem BytesAll.set {d : List (List Nat)} (h : BytesAll d) (i : Nat) {l : List Nat} (hl : ∀ x ∈ l, x < 256) : BytesAll (d.set i l) := fun m hm => by
  rcases List.mem_or_eq_of_mem_set hm with h' | rfl
  · exact h m h'
  · exact hl
theorem BytesAll.apply (w : List (Nat × List Nat)) : ∀ {d : List (List Nat)}, BytesAll d → (∀ p ∈ w, ∀ x ∈ p.2, x < 256) → BytesAll (Dsk.apply w d) := by
  induction w with
  | nil => intro d h _; exact h
  | cons p r ih => intro d h hw; simp only [Dsk.apply, List.foldl_cons]; exact ih (h.set _ (hw p (by simp))) (fun q hq => hw q (by simp [hq]))
theorem BytesAll.crashD (w : List (Nat × List Nat)) : ∀ {d : List (List Nat)} (k : List Bool), BytesAll d → (∀ p ∈ w, ∀ x ∈ p.2, x < 256) → BytesAll (Dsk.crashD w k d) := by
  induction w with
  | nil => intro d k h _; exact h
  | cons p r ih =>
    intro d k h hw
    simp only [Dsk.crashD]
    refine ih _ ?_ (fun q hq => hw q (by simp [hq]))
    split
    · exact h.set _ (hw p (by simp))
    · exact h
/-- Each text fits a sector. -/
def ShortAll (d : List (List Nat)) : Prop := ∀ l ∈ d, l.length ≤ 512
theorem ShortAll.set {d : List (List Nat)} (h : ShortAll d) (i : Nat) {l : List Nat} (hl : l.length ≤ 512) : ShortAll (d.set i l) := fun m hm => by
  rcases List.mem_or_eq_of_mem_set hm with h' | rfl
  · exact h m h'
  · exact hl
theorem ShortAll.apply (w : List (Nat × List Nat)) : ∀ {d : List (List Nat)}, ShortAll d → (∀ p ∈ w, p.2.length ≤ 512) → ShortAll (Dsk.apply w d) := by
  induction w with
  | nil => intro d h _; exact h
  | cons p r ih => intro d h hw; simp only [Dsk.apply, List.foldl_cons]; exact ih (h.set _ (hw p (by simp))) (fun q hq => hw q (by simp [hq]))
theorem ShortAll.crashD (w : List (Nat × List Nat)) : ∀ {d : List (List Nat)} (k : List Bool), ShortAll d → (∀ p ∈ w, p.2.length ≤ 512) → ShortAll (Dsk.crashD w k d) := by
  induction w with
  | nil => intro d k h _; exact h
  | cons p r ih =>
    intro d k h hw
    simp only [Dsk.crashD]
    refine ih _ ?_ (fun q hq => hw q (by simp [hq]))
    split
    · exact h.set _ (hw p (by simp))
    · exact h
theorem ShortAll.getD {d : List (List Nat)} (h : ShortAll d) (i : Nat) : (d.getD i []).length ≤ 512 := by
  rw [List.getD_eq_getElem?_getD]
  rcases Nat.lt_or_ge i d.length with hi | hi
  · rw [List.getElem?_eq_getElem hi]; exact h _ (List.getElem_mem hi)
  · rw [List.getElem?_eq_none hi]; exact Nat.zero_le _
theorem BytesAll.getD {d : List (List Nat)} (h : BytesAll d) (i : Nat) : ∀ x ∈ d.getD i [], x < 256 := by
  rw [List.getD_eq_getElem?_getD]
  rcases Nat.lt_or_ge i d.length with hi | hi
  · rw [List.getElem?_eq_getElem hi]; exact h _ (List.getElem_mem hi)
  · rw [List.getElem?_eq_none hi]; simp

/-- What a sector holds behind writes, if it is none of theirs. -/
theorem apply_other (w : List (Nat × List Nat)) (i : Nat) : ∀ d, (∀ p ∈ w, p.1 ≠ i) → (apply w d)[i]? = d[i]? := by
  induction w with
  | nil => intro d _; rfl
  | cons p r ih =>
    intro d h
    simp only [apply, List.foldl_cons] at ih ⊢
    rw [ih _ (fun q hq => h q (by simp [hq])), List.getElem?_set]
    rw [if_neg (h p (by simp))]
theorem crashD_other (w : List (Nat × List Nat)) (i : Nat) : ∀ k d, (∀ p ∈ w, p.1 ≠ i) → (crashD w k d)[i]? = d[i]? := by
  induction w with
  | nil => intro k d _; rfl
  | cons p r ih =>
    intro k d h
    simp only [crashD]
    rw [ih _ _ (fun q hq => h q (by simp [hq]))]
    split
    · rw [List.getElem?_set, if_neg (h p (by simp))]
    · rfl

/-- The sectors of the writes w are set to what e holds. -/
def resee (w : List (Nat × List Nat)) (e : List (List Nat)) (s : List (List Nat)) : List (List Nat) := w.foldl (fun s p => s.set p.1 (e.getD p.1 [])) s
theorem resee_length (w : List (Nat × List Nat)) (e : List (List Nat)) : ∀ s, (resee w e s).length = s.length := by
  induction w with
  | nil => intro s; rfl
  | cons p r ih => intro s; simp only [resee, List.foldl_cons] at ih ⊢; rw [ih]; simp
theorem resee_snoc (w : List (Nat × List Nat)) (p : Nat × List Nat) (e s : List (List Nat)) : resee (w ++ [p]) e s = (resee w e s).set p.1 (e.getD p.1 []) := by simp [resee]
theorem resee_at (w : List (Nat × List Nat)) (e : List (List Nat)) (i : Nat) : ∀ s, s.length = e.length → ((∃ p ∈ w, p.1 = i) ∨ s[i]? = e[i]?) → (resee w e s)[i]? = e[i]? := by
  induction w with
  | nil => intro s _ h; rcases h with ⟨p, hp, _⟩ | h; cases hp; exact h
  | cons p r ih =>
    intro s hl h
    simp only [resee, List.foldl_cons] at ih ⊢
    refine ih _ (by simp [hl]) ?_
    by_cases hp : p.1 = i
    · right
      rw [List.getElem?_set, if_pos hp]
      subst hp
      rw [List.getD_eq_getElem?_getD]
      rcases Nat.lt_or_ge p.1 e.length with hi | hi
      · rw [if_pos (by omega), List.getElem?_eq_getElem hi]; rfl
      · rw [if_neg (by omega), List.getElem?_eq_none hi]
    · rcases h with ⟨q, hq, hqi⟩ | h
      · rcases List.mem_cons.1 hq with rfl | hq
        · exact absurd hqi hp
        · exact .inl ⟨q, hq, hqi⟩
      · right; rw [List.getElem?_set, if_neg hp]; exact h
/-- Behind a crash what is read is what is durable. -/
theorem resee_crash (w : List (Nat × List Nat)) (k : List Bool) (d : List (List Nat)) : resee w (crashD w k d) (apply w d) = crashD w k d := by
  apply List.ext_getElem?
  intro i
  refine resee_at w _ i _ (by rw [apply_length, crashD_length]) ?_
  by_cases h : ∃ p ∈ w, p.1 = i
  · exact .inl h
  · right
    have h' : ∀ p ∈ w, p.1 ≠ i := fun p hp e => h ⟨p, hp, e⟩
    rw [apply_other w i d h', crashD_other w i k d h']

/-- A disk: what is durable, what waits, the fuel (below 0: no number), whether it is dead. -/
structure DM where
  dur : List (List Nat)
  wait : List (Nat × List Nat)
  fuel : Int
  dead : Bool

namespace DM
def n (m : DM) : Nat := m.dur.length
def seen (m : DM) : List (List Nat) := apply m.wait m.dur
theorem seen_length (m : DM) : m.seen.length = m.dur.length := apply_length _ _

structure Good (m : DM) : Prop where
  least : 1 ≤ m.dur.length
  most : m.dur.length ≤ 4096
  bytes : BytesAll m.dur
  short : ShortAll m.dur
  at_ : ∀ p ∈ m.wait, p.1 < m.dur.length
  wbytes : ∀ p ∈ m.wait, ∀ x ∈ p.2, x < 256
  wshort : ∀ p ∈ m.wait, p.2.length ≤ 512
  f0 : -1 ≤ m.fuel
  f1 : m.fuel ≤ 9223372036854775807

theorem Good.seen_bytes {m : DM} (h : m.Good) : BytesAll m.seen := h.bytes.apply _ h.wbytes
theorem Good.seen_short {m : DM} (h : m.Good) : ShortAll m.seen := h.short.apply _ h.wshort

/-- One of the fuel is used; or the disk dies. -/
def burn (m : DM) : DM := if m.fuel = -1 then m else if m.fuel = 0 then { m with dead := true } else { m with fuel := m.fuel - 1 }
/-- Can one more write or flush be done? -/
def burns (m : DM) : Bool := !m.dead && m.fuel != 0

def writeErr (m : DM) (i : Int) (len : Nat) : Int := if m.dead then 10 else if ¬ (0 ≤ i ∧ i < m.dur.length) ∨ 512 < len then 1 else if m.fuel = 0 then 10 else 0
def write (m : DM) (i : Int) (l : List Nat) : DM :=
  if m.dead then m else if ¬ (0 ≤ i ∧ i < m.dur.length) ∨ 512 < l.length then m else if m.fuel = 0 then { m with dead := true }
  else { m.burn with wait := m.wait ++ [(i.toNat, l)] }
def flushErr (m : DM) : Int := if m.dead then 10 else if m.fuel = 0 then 10 else 0
def flush (m : DM) : DM := if m.dead then m else if m.fuel = 0 then { m with dead := true } else { m.burn with dur := m.seen, wait := [] }
def crash (m : DM) (k : List Bool) : DM := { dur := crashD m.wait k m.dur, wait := [], fuel := -1, dead := false }
def setFuel (m : DM) (x : Int) : DM := { m with fuel := max x (-1) }
def readErr (m : DM) (i : Int) : Int := if m.dead then 10 else if ¬ (0 ≤ i ∧ i < m.dur.length) then 1 else 0
def durErr (m : DM) (i : Int) : Int := if ¬ (0 ≤ i ∧ i < m.dur.length) then 1 else 0

theorem Good.burn {m : DM} (h : m.Good) : m.burn.Good := by
  unfold DM.burn
  have := h.f0
  split
  · exact h
  · split
    · exact ⟨h.least, h.most, h.bytes, h.short, h.at_, h.wbytes, h.wshort, h.f0, h.f1⟩
    · exact ⟨h.least, h.most, h.bytes, h.short, h.at_, h.wbytes, h.wshort, by show -1 ≤ m.fuel - 1; omega, by have := h.f1; show m.fuel - 1 ≤ _; omega⟩
theorem burn_dur (m : DM) : m.burn.dur = m.dur := by unfold burn; split; rfl; split <;> rfl
theorem burn_wait (m : DM) : m.burn.wait = m.wait := by unfold burn; split; rfl; split <;> rfl
theorem Good.write {m : DM} (h : m.Good) (i : Int) {l : List Nat} (hl : ∀ x ∈ l, x < 256) : (m.write i l).Good := by
  unfold DM.write
  split
  · exact h
  · split
    · exact h
    · split
      · exact ⟨h.least, h.most, h.bytes, h.short, h.at_, h.wbytes, h.wshort, h.f0, h.f1⟩
      · rename_i hi hf
        have hb := h.burn
        have hd := m.burn_dur
        refine ⟨hb.least, hb.most, hb.bytes, hb.short, fun p hp => ?_, fun p hp => ?_, fun p hp => ?_, hb.f0, hb.f1⟩
        · show p.1 < m.burn.dur.length
          rw [hd]
          rcases List.mem_append.1 hp with hp | hp
          · exact h.at_ p hp
          · have : p = (i.toNat, l) := by simpa using hp
            subst this
            show i.toNat < _
            have h1 : 0 ≤ i ∧ i < m.dur.length := Decidable.byContradiction fun c => hi (.inl c)
            omega
        · rcases List.mem_append.1 hp with hp | hp
          · exact h.wbytes p hp
          · have : p = (i.toNat, l) := by simpa using hp
            subst this
            exact hl
        · rcases List.mem_append.1 hp with hp | hp
          · exact h.wshort p hp
          · have : p = (i.toNat, l) := by simpa using hp
            subst this
            show l.length ≤ 512
            have h1 : ¬ 512 < l.length := fun c => hi (.inr c)
            omega
theorem Good.flush {m : DM} (h : m.Good) : m.flush.Good := by
  unfold DM.flush
  split
  · exact h
  · split
    · exact ⟨h.least, h.most, h.bytes, h.short, h.at_, h.wbytes, h.wshort, h.f0, h.f1⟩
    · have hb := h.burn
      exact ⟨by show 1 ≤ m.seen.length; rw [seen_length]; exact h.least, by show m.seen.length ≤ _; rw [seen_length]; exact h.most, h.seen_bytes, h.seen_short, fun p hp => (by cases hp), fun p hp => (by cases hp), fun p hp => (by cases hp), hb.f0, hb.f1⟩
theorem Good.crash {m : DM} (h : m.Good) (k : List Bool) : (m.crash k).Good :=
  ⟨by show 1 ≤ (crashD _ _ _).length; rw [crashD_length]; exact h.least, by show (crashD _ _ _).length ≤ _; rw [crashD_length]; exact h.most, h.bytes.crashD _ k h.wbytes, h.short.crashD _ k h.wshort,
    fun p hp => (by cases hp), fun p hp => (by cases hp), fun p hp => (by cases hp), by show (-1 : Int) ≤ -1; omega, by show (-1 : Int) ≤ _; omega⟩
theorem Good.setFuel {m : DM} (h : m.Good) {x : Int} (hx : x ≤ 9223372036854775807) : (m.setFuel x).Good :=
  ⟨h.least, h.most, h.bytes, h.short, h.at_, h.wbytes, h.wshort, by show -1 ≤ max x (-1); omega, by show max x (-1) ≤ _; omega⟩
end DM

/-- A new disk of n sectors. -/
def fresh (n : Nat) : DM := { dur := List.replicate n [], wait := [], fuel := -1, dead := false }
theorem fresh_good {n : Nat} (h1 : 1 ≤ n) (h2 : n ≤ 4096) : (fresh n).Good :=
  ⟨by simpa [fresh] using h1, by simpa [fresh] using h2, fun l hl => (by have : l = [] := (List.mem_replicate.1 hl).2; subst this; simp), fun l hl => (by have : l = [] := (List.mem_replicate.1 hl).2; subst this; simp), fun p hp => (by cases hp), fun p hp => (by cases hp), fun p hp => (by cases hp), by show (-1 : Int) ≤ -1; omega, by show (-1 : Int) ≤ _; omega⟩
end Dsk
end Go.Proofs.Ytaoldopkehbhkaa
