/-
  blob: lay's work: blocks taken, sorted, filled.
-/
import Derived.Test.YtlofpbmceipkkaaM24
namespace Go.Proofs.Ytlofpbmceipkkaa
open Go.RowKit Wal Blob

/-- Of what was there only blocks of stores from B on, and q, have turned. -/
structure KpE (B q : Nat) (w w' : World) : Prop where
  os : w'.os = w.os
  tape : w'.tape = w.tape
  output : w'.output = w.output
  size : w.heap.size ≤ w'.heap.size
  block : ∀ k, k < w.heap.size → k ≠ q → Far B w k → w'.heap[k]? = w.heap[k]?
section
variable {B q : Nat} {w w' w'' : World}
theorem KpE.of (h : Kp B w w') : KpE B q w w' := ⟨h.os, h.tape, h.output, h.size, fun k hk _ hf => h.block k hk hf⟩
theorem KpE.trans (h : KpE B q w w') (k : KpE B q w' w'') : KpE B q w w'' := ⟨k.os.trans h.os, k.tape.trans h.tape, k.output.trans h.output, Nat.le_trans h.size k.size, fun i hi hq hf => by
  have e := h.block i hi hq hf
  exact (k.block i (Nat.lt_of_lt_of_le hi h.size) hq (hf.keep e)).trans e⟩
theorem KpE.set_ (B : Nat) (w : World) (q i : Nat) (v : Value) : KpE B q w (w.setCell ⟨q, i, none⟩ v) := ⟨rfl, rfl, rfl, by simp [World.setCell], fun _ _ hq _ => Below.heap_setCell _ _ _ _ hq⟩
theorem KpE.held {r : Nat} {t : TypeId} {cs : Array Value} (h : KpE B q w w') (k : Held w r t cs) (hr : r ≠ q) (h1 : t ≠ 93) (h2 : t ≠ 152) : Held w' r t cs :=
  (h.block r k.lt hr (.inr fun cs' t' m' hh => by
    have e := k.symm.trans hh
    injection e with e
    injection e with _ e2 _
    subst e2
    exact ⟨h1, h2⟩)).trans k
theorem KpE.kp {w0 : World} (h : KpE B q w w') (k : Kp B w0 w) (hq : w0.heap.size ≤ q) : Kp B w0 w' := ⟨h.os.trans k.os, h.tape.trans k.tape, h.output.trans k.output, Nat.le_trans k.size h.size, fun i hi hf => by
  have e := k.block i hi hf
  exact (h.block i (Nat.lt_of_lt_of_le hi k.size) (by omega) (hf.keep e)).trans e⟩
end
/-- Blocks that have been taken. -/
def fill0 (f : Nat → Option KB) (ts : List Nat) : Nat → Option KB := fun j => if j + 1 ∈ ts then some zeroKB else f j
theorem fill0_nil (f : Nat → Option KB) : fill0 f [] = f := by funext j; simp [fill0]
theorem fill0_snoc (f : Nat → Option KB) (ts : List Nat) (i : Nat) : put (fill0 f ts) i (some zeroKB) = fill0 f (ts ++ [i + 1]) := by
  funext j
  unfold put fill0
  by_cases c : j = i
  · subst c
    simp
  · rw [if_neg c]
    have e : (j + 1 ∈ ts ++ [i + 1]) ↔ (j + 1 ∈ ts) := by simp [c]
    simp only [e]
structure Tak (n : Nat) (f : Nat → Option KB) (ts : List Nat) : Prop where
  rise : ts.Pairwise (· < ·)
  each : ∀ t ∈ ts, 1 ≤ t ∧ t ≤ n ∧ f (t - 1) = none
  low : ∀ t ∈ ts, ∀ j, j < t → fill0 f ts j ≠ none
theorem Tak.nil (n : Nat) (f : Nat → Option KB) : Tak n f [] := ⟨List.Pairwise.nil, by simp, by simp⟩
theorem Tak.more {n : Nat} {f : Nat → Option KB} {ts : List Nat} (h : Tak n f ts) {i : Nat} (hl : Least n (fill0 f ts) i) : Tak n f (ts ++ [i + 1]) := by
  have nf : f i = none := by
    have := hl.2.1
    unfold fill0 at this
    split at this
    · cases this
    · exact this
  refine ⟨List.pairwise_append.2 ⟨h.rise, List.pairwise_singleton _ _, fun a ha b hb => ?_⟩, fun t ht => ?_, fun t ht j hj => ?_⟩
  · have : b = i + 1 := by simpa using hb
    subst this
    rcases Nat.lt_or_ge i a with c | c
    · exact absurd hl.2.1 (h.low a ha i c)
    · omega
  · rcases List.mem_append.1 ht with ht | ht
    · exact h.each t ht
    · have : t = i + 1 := by simpa using ht
      subst this
      exact ⟨by omega, hl.1, nf⟩
  · rw [← fill0_snoc]
    unfold put
    by_cases c : j = i
    · rw [if_pos c]; simp
    · rw [if_neg c]
      rcases List.mem_append.1 ht with ht | ht
      · exact h.low t ht j hj
      · have : t = i + 1 := by simpa using ht
        subst this
        exact hl.2.2 j (by omega)
/-- A blob laid on blocks that were free. -/
structure LaidAt (n : Nat) (f f' : Nat → Option KB) (h : Nat) (parts l : List Nat) : Prop where
  blob : BlobAt n f' h parts l
  fresh : ∀ v ∈ h :: parts, v ≤ n ∧ f (v - 1) = none
  same : ∀ j, j + 1 ∉ h :: parts → f' j = f j
theorem fill_laid {n : Nat} {f : Nat → Option KB} {h : Nat} {parts l : List Nat} (tk : Tak n f (h :: parts)) (hn : n ≤ 4096) (h1 : 1 ≤ l.length) (h2 : l.length ≤ 49152) (hc : parts.length = (l.length + 511) / 512) (hb : ∀ x ∈ l, x < 256) :
    LaidAt n f (fW (put (fill0 f (h :: parts)) (h - 1) (some (packB l.length h parts, false))) parts l parts.length) h parts l := by
  have fine : Fine h parts := ⟨(tk.each h (by simp)).1, tk.rise, fun x hx => by have := (tk.each x hx).2.1; omega, by omega⟩
  have e1 : ∀ v ∈ parts, 1 ≤ v := fun v hv => (tk.each v (by simp [hv])).1
  have nd : parts.Nodup := (List.pairwise_cons.1 tk.rise).2.imp (fun {a b} (h : a < b) => Nat.ne_of_lt h)
  have hh : h ∉ parts := fun hm => absurd ((List.pairwise_cons.1 tk.rise).1 h hm) (Nat.lt_irrefl _)
  have hp := fine.pos
  refine ⟨⟨fine, h1, h2, hc, ?_, fun i x hx => ?_, hb⟩, fun v hv => (tk.each v hv).2, fun j hj => ?_⟩
  · rw [fW_far _ _ _ e1 _ _ (Nat.le_refl _) (by rw [List.take_of_length_le (Nat.le_refl _), show h - 1 + 1 = h by omega]; exact hh)]
    unfold put
    rw [if_pos rfl]
  · obtain ⟨hi, rfl⟩ := List.getElem?_eq_some_iff.1 hx
    exact fW_at _ _ _ e1 nd i hi _ hi (Nat.le_refl _)
  · have hj' : j + 1 ≠ h ∧ j + 1 ∉ parts := by simpa using hj
    rw [fW_far _ _ _ e1 _ _ (Nat.le_refl _) (by rw [List.take_of_length_le (Nat.le_refl _)]; exact hj'.2)]
    unfold put fill0
    rw [if_neg (by omega), if_neg hj]
end Go.Proofs.Ytlofpbmceipkkaa
