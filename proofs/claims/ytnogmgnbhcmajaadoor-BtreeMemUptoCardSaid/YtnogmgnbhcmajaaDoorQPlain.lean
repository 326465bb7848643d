/-
  btree's blocks, in plain words: numbers without the zeros that would end them; entries, one behind the other. · btree: where entries are cut, in plain words. · btree: a tree on a store's blocks, in plain words. · btree: what a Put and a Delete make of pairs, in plain words; where a key is among entries that rise.
-/
import Derived.Test.YtnogmgnbhcmajaaDoorQWalNum
import Derived.Test.YtnogmgnbhcmajaaDoorQM5
namespace Go.Proofs.YtnogmgnbhcmajaaDoor
open Wal

/-- A number's bytes, the lowest first, as few as there need be. -/
def pk (x : Nat) : List Nat := if h : x = 0 then [] else x % 256 :: pk (x / 256)
termination_by x
decreasing_by omega
theorem pk_zero : pk 0 = [] := by unfold pk; simp
theorem pk_pos {x : Nat} (h : 0 < x) : pk x = x % 256 :: pk (x / 256) := by
  rw [pk, dif_neg (by omega)]
theorem pk_bytes (x : Nat) : ∀ y ∈ pk x, y < 256 := by
  induction x using Nat.strongRecOn with
  | _ x ih =>
    intro y hy
    rcases Nat.eq_zero_or_pos x with rfl | h
    · rw [pk_zero] at hy; simp at hy
    · rw [pk_pos h] at hy
      rcases List.mem_cons.1 hy with rfl | hy
      · exact Nat.mod_lt _ (by omega)
      · exact ih (x / 256) (by omega) y hy
theorem unnum_pk (x : Nat) : unnum (pk x) = x := by
  induction x using Nat.strongRecOn with
  | _ x ih =>
    rcases Nat.eq_zero_or_pos x with rfl | h
    · rw [pk_zero]; rfl
    · rw [pk_pos h]
      have e : unnum (x % 256 :: pk (x / 256)) = x % 256 + 256 * unnum (pk (x / 256)) := rfl
      rw [e, ih (x / 256) (by omega)]
      omega
theorem pk_length {k : Nat} : ∀ {x : Nat}, x < 256 ^ k → (pk x).length ≤ k := by
  induction k with
  | zero => intro x h; have : x = 0 := by simpa using h
            subst this; rw [pk_zero]; simp
  | succ k ih =>
    intro x h
    rcases Nat.eq_zero_or_pos x with rfl | hp
    · rw [pk_zero]; simp
    · rw [pk_pos hp, List.length_cons]
      have : x / 256 < 256 ^ k := by rw [Nat.pow_succ] at h; omega
      have := ih this
      omega

/-- An entry: a key and a value, each a list of bytes. -/
abbrev En := List Nat × List Nat
def encT (l : List Nat) : List Nat := l.length :: l
def encE (e : En) : List Nat := encT e.1 ++ encT e.2
def sizeE (e : En) : Nat := e.1.length + e.2.length + 2
def totalE (es : List En) : Nat := (es.map sizeE).sum
def encN (level : Nat) (es : List En) : List Nat := level :: es.flatMap encE
theorem encE_length (e : En) : (encE e).length = sizeE e := by simp [encE, encT, sizeE]; omega
theorem totalE_append (a b : List En) : totalE (a ++ b) = totalE a + totalE b := by unfold totalE; rw [List.map_append, List.sum_append]
theorem totalE_cons (e : En) (r : List En) : totalE (e :: r) = sizeE e + totalE r := rfl
theorem totalE_take_succ (es : List En) (k : Nat) (h : k < es.length) : totalE (es.take (k + 1)) = totalE (es.take k) + sizeE es[k] := by
  rw [List.take_succ_eq_append_getElem h, totalE_append]
  rfl
theorem flat_length (es : List En) : (es.flatMap encE).length = totalE es := by
  induction es with
  | nil => rfl
  | cons e r ih => rw [List.flatMap_cons, List.length_append, ih, encE_length, totalE_cons]
theorem encN_length (level : Nat) (es : List En) : (encN level es).length = 1 + totalE es := by
  unfold encN
  rw [List.length_cons, flat_length]
  omega
/-- Bytes of an entry. -/
structure Small (e : En) : Prop where
  k : e.1.length < 256
  v : e.2.length < 256
  kb : ∀ x ∈ e.1, x < 256
  vb : ∀ x ∈ e.2, x < 256
theorem encE_bytes {e : En} (h : Small e) : ∀ x ∈ encE e, x < 256 := by
  intro x hx
  unfold encE encT at hx
  rcases List.mem_append.1 hx with hx | hx
  · rcases List.mem_cons.1 hx with rfl | hx
    · exact h.k
    · exact h.kb x hx
  · rcases List.mem_cons.1 hx with rfl | hx
    · exact h.v
    · exact h.vb x hx
theorem encN_bytes {level : Nat} {es : List En} (hl : level < 256) (h : ∀ e ∈ es, Small e) : ∀ x ∈ encN level es, x < 256 := by
  intro x hx
  rcases List.mem_cons.1 hx with rfl | hx
  · exact hl
  · obtain ⟨e, he, hx⟩ := List.mem_flatMap.1 hx
    exact encE_bytes (h e he) x hx
theorem encE_drop (e : En) (r : List Nat) : (encE e ++ r) = e.1.length :: (e.1 ++ (e.2.length :: (e.2 ++ r))) := by
  simp [encE, encT]
/-- Texts in the order of their bytes. -/
def ltB : List Nat → List Nat → Bool
  | _, [] => false
  | [], _ :: _ => true
  | x :: a, y :: b => x < y || (x == y && ltB a b)
theorem ltB_irrefl (a : List Nat) : ltB a a = false := by
  induction a with
  | nil => rfl
  | cons x a ih => simp [ltB, ih]
theorem ltB_trans {a b c : List Nat} (h : ltB a b = true) (k : ltB b c = true) : ltB a c = true := by
  induction a generalizing b c with
  | nil =>
    match b, c, h, k with
    | y :: b, z :: c, _, _ => rfl
  | cons x a ih =>
    match b, c, h, k with
    | y :: b, z :: c, h, k =>
      simp only [ltB, Bool.or_eq_true, Bool.and_eq_true, decide_eq_true_eq, beq_iff_eq] at h k ⊢
      rcases h with h | ⟨rfl, h⟩
      · rcases k with k | ⟨rfl, k⟩
        · exact .inl (by omega)
        · exact .inl h
      · rcases k with k | ⟨rfl, k⟩
        · exact .inl k
        · exact .inr ⟨rfl, ih h k⟩
theorem ltB_total (a b : List Nat) : ltB a b = true ∨ a = b ∨ ltB b a = true := by
  induction a generalizing b with
  | nil => cases b <;> simp [ltB]
  | cons x a ih =>
    cases b with
    | nil => simp [ltB]
    | cons y b =>
      simp only [ltB, Bool.or_eq_true, Bool.and_eq_true, decide_eq_true_eq, beq_iff_eq, List.cons.injEq]
      rcases Nat.lt_trichotomy x y with h | rfl | h
      · exact .inl (.inl h)
      · rcases ih b with h | rfl | h
        · exact .inl (.inr ⟨rfl, h⟩)
        · exact .inr (.inl ⟨rfl, rfl⟩)
        · exact .inr (.inr (.inr ⟨rfl, h⟩))
      · exact .inr (.inr (.inl h))
/-- Keys that rise. -/
def Rises (es : List En) : Prop := es.Pairwise fun a b => ltB a.1 b.1 = true
end Go.Proofs.YtnogmgnbhcmajaaDoor

namespace Go.Proofs.YtnogmgnbhcmajaaDoor
open Wal

def midN : List En → Nat → Nat → Nat
  | [], _, _ => 0
  | e :: es, l, r => if r < l + sizeE e then 0 else midN es (l + sizeE e) (r - sizeE e) + 1
def mid (es : List En) : Nat := midN es 0 (totalE es)
theorem take_succ_cons' (e : En) (es : List En) (k : Nat) : totalE ((e :: es).take (k + 1)) = sizeE e + totalE (es.take k) := by
  rw [List.take_succ_cons, totalE_cons]
theorem midN_spec (es : List En) : ∀ l, midN es l (totalE es) ≤ es.length ∧
    (midN es l (totalE es) < es.length → totalE es < l + totalE (es.take (midN es l (totalE es) + 1)) + totalE (es.take (midN es l (totalE es)))) ∧
    (∀ k, k < midN es l (totalE es) → l + totalE (es.take (k + 1)) + totalE (es.take k) ≤ totalE es) := by
  induction es with
  | nil => intro l; exact ⟨Nat.le_refl _, fun h => absurd h (Nat.lt_irrefl 0), fun k h => absurd h (Nat.not_lt_zero k)⟩
  | cons e t ih =>
    intro l
    have e0 : totalE (e :: t) = sizeE e + totalE t := totalE_cons e t
    by_cases c : totalE (e :: t) < l + sizeE e
    · have hm : midN (e :: t) l (totalE (e :: t)) = 0 := by unfold midN; rw [if_pos c]
      rw [hm]
      refine ⟨Nat.zero_le _, fun _ => ?_, fun k h => absurd h (Nat.not_lt_zero k)⟩
      rw [take_succ_cons']
      simp [totalE] at c ⊢
      omega
    · have hm : midN (e :: t) l (totalE (e :: t)) = midN t (l + sizeE e) (totalE t) + 1 := by
        conv => lhs; unfold midN
        rw [if_neg c, e0, Nat.add_sub_cancel_left]
      rw [hm]
      obtain ⟨h1, h2, h3⟩ := ih (l + sizeE e)
      refine ⟨by rw [List.length_cons]; omega, fun h => ?_, fun k h => ?_⟩
      · rw [List.length_cons] at h
        have := h2 (by omega)
        rw [take_succ_cons', take_succ_cons', e0]
        omega
      · rcases k with _ | k
        · rw [take_succ_cons']
          simp only [List.take_zero]
          have z : totalE [] = 0 := rfl
          rw [z]
          omega
        · have := h3 k (by omega)
          rw [take_succ_cons', take_succ_cons', e0]
          omega
/-- Entries that don't fit, none greater than m: both pieces are something, neither is small. -/
theorem mid_cuts {es : List En} {m : Nat} (h : 511 < totalE es) (hm : ∀ e ∈ es, sizeE e ≤ m) (h2 : m ≤ 194) :
    0 < mid es ∧ mid es < es.length ∧ 512 - m ≤ 2 * totalE (es.take (mid es)) ∧ 512 - m ≤ 2 * totalE (es.drop (mid es)) := by
  obtain ⟨h1, hb, hc⟩ := midN_spec es 0
  have hmid : midN es 0 (totalE es) = mid es := rfl
  rw [hmid] at h1 hb hc
  have tot : ∀ k, totalE (es.take k) + totalE (es.drop k) = totalE es := fun k => by rw [← totalE_append, List.take_append_drop]
  have step : ∀ k, k < es.length → ∃ z, z ≤ m ∧ totalE (es.take (k + 1)) = totalE (es.take k) + z := fun k hk => ⟨sizeE es[k], hm _ (List.getElem_mem hk), totalE_take_succ es k hk⟩
  have lt : mid es < es.length := by
    rcases Nat.lt_or_ge (mid es) es.length with hh | hh
    · exact hh
    · exfalso
      have e : mid es = es.length := by omega
      have pos : 0 < es.length := by
        rcases es with _ | ⟨a, b⟩
        · simp [totalE] at h
        · simp
      have := hc (es.length - 1) (by omega)
      obtain ⟨z, hz, hs⟩ := step (es.length - 1) (by omega)
      rw [show es.length - 1 + 1 = es.length by omega, List.take_length] at this hs
      omega
  have hB := hb lt
  obtain ⟨z, hz, hs⟩ := step (mid es) lt
  have t1 := tot (mid es)
  have pos : 0 < mid es := by
    rcases Nat.eq_zero_or_pos (mid es) with e | e
    · exfalso
      rw [e] at hB hs
      simp only [List.take_zero] at hB hs
      have z0 : totalE [] = 0 := rfl
      rw [z0] at hB hs
      omega
    · exact e
  have hC := hc (mid es - 1) (by omega)
  obtain ⟨y, hy, hs2⟩ := step (mid es - 1) (by omega)
  rw [show mid es - 1 + 1 = mid es by omega] at hC hs2
  exact ⟨pos, lt, by omega, by omega⟩
theorem two_of {es : List En} {m : Nat} (hm : ∀ e ∈ es, sizeE e ≤ m) (h : m < totalE es) : 2 ≤ es.length := by
  rcases es with _ | ⟨a, _ | ⟨b, c⟩⟩
  · simp [totalE] at h
  · have := hm a (by simp)
    simp [totalE] at h
    omega
  · simp
/-- The pieces, by fuel. -/
def cutF : Nat → List En → List (List En)
  | 0, _ => []
  | k + 1, es => if es = [] then [] else if totalE es ≤ 511 then [es] else cutF k (es.take (mid es)) ++ cutF k (es.drop (mid es))
def cutN (es : List En) : List (List En) := cutF es.length es
structure Cut (m : Nat) (es : List En) (ps : List (List En)) : Prop where
  all : ps.flatMap id = es
  fits : ∀ p ∈ ps, totalE p ≤ 511 ∧ p ≠ []
  some_ : es ≠ [] → ps ≠ []
  few : 511 < totalE es → ps.length * (512 - m) ≤ 2 * totalE es ∧ ∀ p ∈ ps, 512 - m ≤ 2 * totalE p
  one : totalE es ≤ 511 → ps.length ≤ 1
theorem cutF_cut {m : Nat} (h2 : m ≤ 194) : ∀ (k : Nat) (es : List En), es.length ≤ k → (∀ e ∈ es, sizeE e ≤ m) → Cut m es (cutF k es)
  | 0, es, hk, _ => by
    obtain rfl : es = [] := List.eq_nil_of_length_eq_zero (by omega)
    exact ⟨rfl, by simp [cutF], fun h => absurd rfl h, fun h => by simp [totalE] at h, fun _ => by simp [cutF]⟩
  | k + 1, es, hk, hm => by
    by_cases c : es = []
    · subst c
      exact ⟨by simp [cutF], by simp [cutF], fun h => absurd rfl h, fun h => by simp [totalE] at h, fun _ => by simp [cutF]⟩
    · by_cases c2 : totalE es ≤ 511
      · have e : cutF (k + 1) es = [es] := by unfold cutF; rw [if_neg c, if_pos c2]
        rw [e]
        exact ⟨by simp, fun p hp => by have : p = es := by simpa using hp
                                       subst this; exact ⟨c2, c⟩, fun _ => by simp, fun h => by omega, fun _ => by simp⟩
      · have e : cutF (k + 1) es = cutF k (es.take (mid es)) ++ cutF k (es.drop (mid es)) := by
          conv => lhs; unfold cutF
          rw [if_neg c, if_neg c2]
        obtain ⟨p1, p2, p3, p4⟩ := mid_cuts (by omega) hm h2
        have A := cutF_cut h2 k (es.take (mid es)) (by rw [List.length_take]; omega) (fun x hx => hm x (List.mem_of_mem_take hx))
        have B := cutF_cut h2 k (es.drop (mid es)) (by rw [List.length_drop]; omega) (fun x hx => hm x (List.mem_of_mem_drop hx))
        have tot : totalE (es.take (mid es)) + totalE (es.drop (mid es)) = totalE es := by rw [← totalE_append, List.take_append_drop]
        have key : ∀ (xs : List En) (ps : List (List En)), Cut m xs ps → 512 - m ≤ 2 * totalE xs → ps.length * (512 - m) ≤ 2 * totalE xs ∧ ∀ p ∈ ps, 512 - m ≤ 2 * totalE p := fun xs ps C hl => by
          by_cases cc : totalE xs ≤ 511
          · have l1 := C.one cc
            refine ⟨?_, fun p hp => ?_⟩
            · rcases ps with _ | ⟨a, _ | ⟨b, r⟩⟩
              · simp
              · simpa using hl
              · simp at l1
            · rcases ps with _ | ⟨a, _ | ⟨b, r⟩⟩
              · cases hp
              · have e1 : p = a := by simpa using hp
                have e2 : a = xs := by simpa using C.all
                rw [e1, e2]; exact hl
              · simp at l1
          · exact C.few (by omega)
        obtain ⟨a1, a2⟩ := key _ _ A p3
        obtain ⟨b1, b2⟩ := key _ _ B p4
        rw [e]
        refine ⟨?_, fun p hp => ?_, fun _ => ?_, fun _ => ⟨?_, fun p hp => ?_⟩, fun h => by omega⟩
        · rw [List.flatMap_append, A.all, B.all, List.take_append_drop]
        · rcases List.mem_append.1 hp with hp | hp
          · exact A.fits p hp
          · exact B.fits p hp
        · have := A.some_ (by intro h0; have h00 : (es.take (mid es)).length = 0 := by rw [h0]; rfl
                              rw [List.length_take] at h00; omega)
          intro h0
          exact this (List.append_eq_nil_iff.1 h0).1
        · rw [List.length_append, Nat.add_mul]
          omega
        · rcases List.mem_append.1 hp with hp | hp
          · exact a2 p hp
          · exact b2 p hp
theorem cutN_cut {m : Nat} (h2 : m ≤ 194) {es : List En} (hm : ∀ e ∈ es, sizeE e ≤ m) : Cut m es (cutN es) := cutF_cut h2 _ _ (Nat.le_refl _) hm
end Go.Proofs.YtnogmgnbhcmajaaDoor

namespace Go.Proofs.YtnogmgnbhcmajaaDoor
open Wal

/-- What lies below an entry: its block, its pairs, its blocks. -/
structure Kid where
  b : Nat
  es : List En
  bs : List Nat
def Kid.lead (k : Kid) : En := ((k.es.headD ([], [])).1, pk k.b)
def leads (ks : List Kid) : List En := ks.map Kid.lead
def pairs (ks : List Kid) : List En := ks.flatMap Kid.es
def blocksK (ks : List Kid) : List Nat := ks.flatMap Kid.bs
/-- A node of level d + 1 lies at block b: its pairs are es, its blocks bs. -/
def TreeIs (f : Nat → Option KB) : Nat → Nat → List En → List Nat → Prop
  | 0, b, es, bs => 0 < b ∧ b ≤ 4096 ∧ (∃ h, f (b - 1) = some (pad (encN 1 es), h)) ∧ es ≠ [] ∧ totalE es ≤ 511 ∧ bs = [b]
  | d + 1, b, es, bs => ∃ ks : List Kid, 0 < b ∧ b ≤ 4096 ∧ (∃ h, f (b - 1) = some (pad (encN (d + 2) (leads ks)), h)) ∧ 2 ≤ ks.length ∧ totalE (leads ks) ≤ 511 ∧
      (∀ k ∈ ks, TreeIs f d k.b k.es k.bs) ∧ es = pairs ks ∧ bs = b :: blocksK ks
theorem TreeIs.top {f : Nat → Option KB} : ∀ {d b : Nat} {es : List En} {bs : List Nat}, TreeIs f d b es bs → 0 < b ∧ b ≤ 4096 ∧ es ≠ [] ∧ b ∈ bs
  | 0, b, es, bs, ⟨h1, h2, _, h4, _, h6⟩ => ⟨h1, h2, h4, by rw [h6]; simp⟩
  | d + 1, b, es, bs, ⟨ks, h1, h2, _, h4, _, h6, h7, h8⟩ => ⟨h1, h2, by
      rcases ks with _ | ⟨k, r⟩
      · simp at h4
      · have := (TreeIs.top (h6 k (by simp))).2.2.1
        rw [h7]
        unfold pairs
        rw [List.flatMap_cons]
        intro e
        exact this (List.append_eq_nil_iff.1 e).1, by rw [h8]; simp⟩
theorem pairs_cons (k : Kid) (r : List Kid) : pairs (k :: r) = k.es ++ pairs r := rfl
theorem blocksK_cons (k : Kid) (r : List Kid) : blocksK (k :: r) = k.bs ++ blocksK r := rfl
theorem pairs_append (a b : List Kid) : pairs (a ++ b) = pairs a ++ pairs b := by unfold pairs; rw [List.flatMap_append]
theorem blocksK_append (a b : List Kid) : blocksK (a ++ b) = blocksK a ++ blocksK b := by unfold blocksK; rw [List.flatMap_append]
theorem leads_append (a b : List Kid) : leads (a ++ b) = leads a ++ leads b := by unfold leads; rw [List.map_append]
theorem kids_len (ks : List Kid) (a : Nat) (h : ∀ k ∈ ks, k.bs.length + 1 ≤ 2 * k.es.length ∧ a ≤ k.es.length) : (blocksK ks).length + ks.length ≤ 2 * (pairs ks).length ∧ a * ks.length ≤ (pairs ks).length := by
  induction ks with
  | nil => exact ⟨Nat.le_refl _, Nat.le_refl _⟩
  | cons k r ih =>
    obtain ⟨i1, i2⟩ := ih (fun x hx => h x (by simp [hx]))
    obtain ⟨j1, j2⟩ := h k (by simp)
    rw [pairs_cons, blocksK_cons, List.length_append, List.length_append, List.length_cons, Nat.mul_succ]
    omega
/-- Fewer blocks than twice its pairs; twice as many pairs a level. -/
theorem TreeIs.len {f : Nat → Option KB} : ∀ {d b : Nat} {es : List En} {bs : List Nat}, TreeIs f d b es bs → bs.length + 1 ≤ 2 * es.length ∧ 2 ^ d ≤ es.length
  | 0, b, es, bs, ⟨_, _, _, h4, _, h6⟩ => by
    have : 0 < es.length := List.length_pos_iff.2 h4
    rw [h6]
    exact ⟨by simp; omega, by simp; omega⟩
  | d + 1, b, es, bs, ⟨ks, _, _, _, h4, _, h6, h7, h8⟩ => by
    obtain ⟨i1, i2⟩ := kids_len ks (2 ^ d) (fun k hk => TreeIs.len (h6 k hk))
    rw [h7, h8, List.length_cons, Nat.pow_succ]
    refine ⟨by omega, Nat.le_trans ?_ i2⟩
    exact Nat.mul_le_mul_left _ h4
/-- Only its own blocks matter. -/
theorem TreeIs.same {f f' : Nat → Option KB} : ∀ {d b : Nat} {es : List En} {bs : List Nat}, TreeIs f d b es bs → (∀ v ∈ bs, f' (v - 1) = f (v - 1)) → TreeIs f' d b es bs
  | 0, b, es, bs, ⟨h1, h2, ⟨h, h3⟩, h4, h5, h6⟩, hs => ⟨h1, h2, ⟨h, by rw [hs b (by rw [h6]; simp)]; exact h3⟩, h4, h5, h6⟩
  | d + 1, b, es, bs, ⟨ks, h1, h2, ⟨h, h3⟩, h4, h5, h6, h7, h8⟩, hs => ⟨ks, h1, h2, ⟨h, by rw [hs b (by rw [h8]; simp)]; exact h3⟩, h4, h5, fun k hk => TreeIs.same (h6 k hk) (fun v hv => hs v (by rw [h8]; exact List.mem_cons_of_mem _ (List.mem_flatMap.2 ⟨k, hk, hv⟩))), h7, h8⟩
/-- Its blocks are taken. -/
theorem TreeIs.taken {f : Nat → Option KB} : ∀ {d b : Nat} {es : List En} {bs : List Nat}, TreeIs f d b es bs → ∀ v ∈ bs, 0 < v ∧ v ≤ 4096 ∧ ∃ x, f (v - 1) = some x
  | 0, b, es, bs, ⟨h1, h2, ⟨h, h3⟩, _, _, h6⟩, v, hv => by
    have : v = b := by rw [h6] at hv; simpa using hv
    subst this
    exact ⟨h1, h2, _, h3⟩
  | d + 1, b, es, bs, ⟨ks, h1, h2, ⟨h, h3⟩, _, _, h6, _, h8⟩, v, hv => by
    rw [h8] at hv
    rcases List.mem_cons.1 hv with rfl | hv
    · exact ⟨h1, h2, _, h3⟩
    · obtain ⟨k, hk, hv⟩ := List.mem_flatMap.1 hv
      exact TreeIs.taken (h6 k hk) v hv
/-- Whole: the pairs rise, no block is met twice; the tree without pairs lies nowhere. -/
def Tree (f : Nat → Option KB) (root : Nat) (es : List En) (bs : List Nat) : Prop :=
  (root = 0 ∧ es = [] ∧ bs = []) ∨ (∃ d, TreeIs f d root es bs ∧ Rises es ∧ bs.Nodup)
theorem rises_append {a b : List En} : Rises (a ++ b) ↔ Rises a ∧ Rises b ∧ ∀ x ∈ a, ∀ y ∈ b, ltB x.1 y.1 = true := List.pairwise_append
/-- The keys that lead rise, too. -/
theorem leads_rise {f : Nat → Option KB} {d : Nat} : ∀ {ks : List Kid}, (∀ k ∈ ks, TreeIs f d k.b k.es k.bs) → Rises (pairs ks) → Rises (leads ks)
  | [], _, _ => List.Pairwise.nil
  | k :: r, h, hr => by
    rw [pairs_cons] at hr
    obtain ⟨_, h2, h3⟩ := rises_append.1 hr
    refine List.pairwise_cons.2 ⟨fun e he => ?_, leads_rise (fun x hx => h x (by simp [hx])) h2⟩
    obtain ⟨k2, hk2, rfl⟩ := List.mem_map.1 he
    have n1 := (h k (by simp)).top.2.2.1
    have n2 := (h k2 (by simp [hk2])).top.2.2.1
    obtain ⟨x, xs, e1⟩ := List.exists_cons_of_ne_nil n1
    obtain ⟨y, ys, e2⟩ := List.exists_cons_of_ne_nil n2
    have := h3 x (by rw [e1]; simp) y (List.mem_flatMap.2 ⟨k2, hk2, by rw [e2]; simp⟩)
    unfold Kid.lead
    rw [e1, e2]
    exact this
theorem Tree.empty (f : Nat → Option KB) : Tree f 0 [] [] := .inl ⟨rfl, rfl, rfl⟩
theorem Tree.few {f : Nat → Option KB} {root : Nat} {es : List En} {bs : List Nat} (h : Tree f root es bs) : bs.length ≤ 2 * es.length := by
  rcases h with ⟨_, rfl, rfl⟩ | ⟨d, t, _⟩
  · simp
  · have := t.len.1; omega
end Go.Proofs.YtnogmgnbhcmajaaDoor

namespace Go.Proofs.YtnogmgnbhcmajaaDoor
open Wal

def under (es : List En) (k : List Nat) : List En := es.filter fun e => ltB e.1 k
def over (es : List En) (k : List Nat) : List En := es.filter fun e => ltB k e.1
def putE (es : List En) (k v : List Nat) : List En := under es k ++ (k, v) :: over es k
def delE (es : List En) (k : List Nat) : List En := under es k ++ over es k
theorem ltB_asymm {a b : List Nat} (h : ltB a b = true) : ltB b a = false := by
  cases hb : ltB b a with
  | false => rfl
  | true => have := ltB_trans h hb; rw [ltB_irrefl] at this; cases this
theorem under_all {es : List En} {k : List Nat} (h : ∀ e ∈ es, ltB e.1 k = true) : under es k = es := List.filter_eq_self.2 h
theorem over_none {es : List En} {k : List Nat} (h : ∀ e ∈ es, ltB e.1 k = true) : over es k = [] := List.filter_eq_nil_iff.2 fun e he => by rw [ltB_asymm (h e he)]; decide
theorem over_all {es : List En} {k : List Nat} (h : ∀ e ∈ es, ltB k e.1 = true) : over es k = es := List.filter_eq_self.2 h
theorem under_none {es : List En} {k : List Nat} (h : ∀ e ∈ es, ltB k e.1 = true) : under es k = [] := List.filter_eq_nil_iff.2 fun e he => by rw [ltB_asymm (h e he)]; decide
theorem under_mid {A B C : List En} {k : List Nat} (ha : ∀ e ∈ A, ltB e.1 k = true) (hc : ∀ e ∈ C, ltB k e.1 = true) : under (A ++ B ++ C) k = A ++ under B k := by
  have h1 := under_all ha
  have h2 := under_none hc
  unfold under at h1 h2 ⊢
  rw [List.filter_append, List.filter_append, h1, h2, List.append_nil]
theorem over_mid {A B C : List En} {k : List Nat} (ha : ∀ e ∈ A, ltB e.1 k = true) (hc : ∀ e ∈ C, ltB k e.1 = true) : over (A ++ B ++ C) k = over B k ++ C := by
  have h1 := over_none ha
  have h2 := over_all hc
  unfold over at h1 h2 ⊢
  rw [List.filter_append, List.filter_append, h1, h2, List.nil_append]
theorem put_mid {A B C : List En} {k v : List Nat} (ha : ∀ e ∈ A, ltB e.1 k = true) (hc : ∀ e ∈ C, ltB k e.1 = true) : putE (A ++ B ++ C) k v = A ++ putE B k v ++ C := by
  unfold putE
  rw [under_mid ha hc, over_mid ha hc]
  simp
theorem del_mid {A B C : List En} {k : List Nat} (ha : ∀ e ∈ A, ltB e.1 k = true) (hc : ∀ e ∈ C, ltB k e.1 = true) : delE (A ++ B ++ C) k = A ++ delE B k ++ C := by
  unfold delE
  rw [under_mid ha hc, over_mid ha hc]
  simp
theorem under_lt {es : List En} {k : List Nat} {e : En} (h : e ∈ under es k) : ltB e.1 k = true := (List.mem_filter.1 h).2
theorem over_lt {es : List En} {k : List Nat} {e : En} (h : e ∈ over es k) : ltB k e.1 = true := (List.mem_filter.1 h).2
theorem Rises.under_ {es : List En} (h : Rises es) (k : List Nat) : Rises (under es k) := List.Pairwise.filter _ h
theorem Rises.over_ {es : List En} (h : Rises es) (k : List Nat) : Rises (over es k) := List.Pairwise.filter _ h
theorem Rises.put {es : List En} (h : Rises es) (k v : List Nat) : Rises (putE es k v) := by
  refine rises_append.2 ⟨h.under_ k, List.pairwise_cons.2 ⟨fun e he => over_lt he, h.over_ k⟩, fun x hx y hy => ?_⟩
  rcases List.mem_cons.1 hy with rfl | hy
  · exact under_lt hx
  · exact ltB_trans (under_lt hx) (over_lt hy)
theorem Rises.del {es : List En} (h : Rises es) (k : List Nat) : Rises (delE es k) :=
  rises_append.2 ⟨h.under_ k, h.over_ k, fun _ hx _ hy => ltB_trans (under_lt hx) (over_lt hy)⟩
/-- Entry i of those that rise is the first that isn't less than the key. -/
structure Spot (es : List En) (k : List Nat) (i : Nat) : Prop where
  le : i ≤ es.length
  low : ∀ e ∈ es.take i, ltB e.1 k = true
  high : ∀ e ∈ es.drop i, ltB e.1 k = false
theorem Spot.under_ {es : List En} {k : List Nat} {i : Nat} (s : Spot es k i) : under es k = es.take i := by
  have h1 := under_all s.low
  have h2 : (es.drop i).filter (fun e => ltB e.1 k) = [] := List.filter_eq_nil_iff.2 fun e he => by rw [s.high e he]; decide
  conv => lhs; rw [← List.take_append_drop i es]
  unfold under at h1 ⊢
  rw [List.filter_append, h1, h2, List.append_nil]
/-- The key isn't there. -/
theorem Spot.over_no {es : List En} {k : List Nat} {i : Nat} (s : Spot es k i) (h : Rises es) (hn : ∀ hi : i < es.length, es[i].1 ≠ k) : over es k = es.drop i := by
  have h1 := over_none s.low
  have h2 : ∀ e ∈ es.drop i, ltB k e.1 = true := fun e he => by
    rcases ltB_total k e.1 with h0 | h0 | h0
    · exact h0
    · exfalso
      obtain ⟨hi, rfl | hlt⟩ : ∃ hi : i < es.length, e = es[i] ∨ ltB es[i].1 e.1 = true := by
        have hi : i < es.length := by
          rcases Nat.lt_or_ge i es.length with hh | hh
          · exact hh
          · rw [List.drop_eq_nil_of_le hh] at he; cases he
        refine ⟨hi, ?_⟩
        rw [List.drop_eq_getElem_cons hi] at he
        have hp : Rises (es.drop i) := List.Pairwise.drop h
        rw [List.drop_eq_getElem_cons hi] at hp
        rcases List.mem_cons.1 he with rfl | he
        · exact .inl rfl
        · exact .inr ((List.pairwise_cons.1 hp).1 e he)
      · exact hn hi h0.symm
      · rw [← h0] at hlt
        have := s.high es[i] (by rw [List.drop_eq_getElem_cons hi]; exact List.mem_cons_self)
        rw [this] at hlt; cases hlt
    · rw [s.high e he] at h0; cases h0
  have h3 := over_all h2
  conv => lhs; rw [← List.take_append_drop i es]
  unfold over at h1 h3 ⊢
  rw [List.filter_append, h1, h3, List.nil_append]
/-- The key is there, at i. -/
theorem Spot.over_yes {es : List En} {k : List Nat} {i : Nat} (s : Spot es k i) (h : Rises es) (hi : i < es.length) (hk : es[i].1 = k) : over es k = es.drop (i + 1) := by
  have h1 := over_none s.low
  have hp : Rises (es.drop i) := List.Pairwise.drop h
  rw [List.drop_eq_getElem_cons hi] at hp
  have h2 := over_all (es := es.drop (i + 1)) (k := k) (fun e he => by rw [← hk]; exact (List.pairwise_cons.1 hp).1 e he)
  conv => lhs; rw [← List.take_append_drop i es, List.drop_eq_getElem_cons hi]
  unfold over at h1 h2 ⊢
  rw [List.filter_append, h1, List.nil_append, List.filter_cons, h2, hk, ltB_irrefl]
  rfl
theorem put_new {es : List En} {k v : List Nat} {i : Nat} (s : Spot es k i) (h : Rises es) (hn : ∀ hi : i < es.length, es[i].1 ≠ k) : putE es k v = es.take i ++ (k, v) :: es.drop i := by
  unfold putE; rw [s.under_, s.over_no h hn]
theorem put_old {es : List En} {k v : List Nat} {i : Nat} (s : Spot es k i) (h : Rises es) (hi : i < es.length) (hk : es[i].1 = k) : putE es k v = es.set i (k, v) := by
  unfold putE
  rw [s.under_, s.over_yes h hi hk, List.set_eq_take_append_cons_drop, if_pos hi]
theorem del_old {es : List En} {k : List Nat} {i : Nat} (s : Spot es k i) (h : Rises es) (hi : i < es.length) (hk : es[i].1 = k) : delE es k = es.take i ++ es.drop (i + 1) := by
  unfold delE; rw [s.under_, s.over_yes h hi hk]
theorem del_no {es : List En} {k : List Nat} {i : Nat} (s : Spot es k i) (h : Rises es) (hn : ∀ hi : i < es.length, es[i].1 ≠ k) : delE es k = es := by
  unfold delE; rw [s.under_, s.over_no h hn, List.take_append_drop]
end Go.Proofs.YtnogmgnbhcmajaaDoor
