/-
  space: the map beside the document's map, as SpacePlays leads both.
-/
import Derived.Test.YtaoldopkehbhkaaRef5d
import Derived.Test.YtaoldopkehbhkaaSp7
namespace Go.Proofs.Ytaoldopkehbhkaa
open Go.RowKit Go.Maps Wal

theorem byte_eq {x y : Nat} (hx : x < 256) (hy : y < 256) (h : ∀ j, j < 8 → x.testBit j = y.testBit j) : x = y := by
  apply Nat.eq_of_testBit_eq
  intro j
  by_cases hj : j < 8
  · exact h j hj
  · have h2 : 2 ^ 8 ≤ 2 ^ j := Nat.pow_le_pow_right (by decide) (by omega)
    rw [Nat.testBit_lt_two_pow (by omega), Nat.testBit_lt_two_pow (by omega)]
/-- One set, one text. -/
theorem Set8.one {l l' : List Nat} {t : Nat → Bool} (h : Set8 l t) (h' : Set8 l' t) : l = l' := by
  refine List.ext_getElem (by rw [h.blk.len, h'.blk.len]) fun i h1 h2 => ?_
  have hi : i < 512 := by rw [← h.blk.len]; exact h1
  have e1 : l[i] = l.getD i 0 := by rw [List.getD_eq_getElem?_getD, List.getElem?_eq_getElem h1]; rfl
  have e2 : l'[i] = l'.getD i 0 := by rw [List.getD_eq_getElem?_getD, List.getElem?_eq_getElem h2]; rfl
  rw [e1, e2]
  refine byte_eq (h.lt i) (h'.lt i) fun j hj => ?_
  have a := h.bit (8 * i + j) (by omega)
  have b := h'.bit (8 * i + j) (by omega)
  rw [show (8 * i + j) / 8 = i by omega, show (8 * i + j) % 8 = j by omega] at a b
  rw [a, b]
/-- A map of n blocks: none of the others is in it, and the first two are. -/
structure Fits (t : Nat → Bool) (n : Nat) : Prop where
  off : ∀ b, n ≤ b → t b = false
  z0 : t 0 = true
  z1 : t 1 = true
theorem Fits.whole {t : Nat → Bool} {n : Nat} (h : Fits t n) : cut t n = t := by
  funext b
  unfold cut
  by_cases hb : b < n
  · rw [decide_eq_true hb, Bool.and_true]
  · rw [decide_eq_false hb, Bool.and_false, h.off b (by omega)]
theorem Fits.cnt {t : Nat → Bool} {n : Nat} (h : Fits t n) : ∀ k, cntB t (n + k) = cntB t n
  | 0 => rfl
  | k + 1 => by
    rw [← Nat.add_assoc, show cntB t (n + k + 1) = cntB t (n + k) + (if t (n + k) then 1 else 0) from rfl, h.off _ (by omega), Fits.cnt h k]
    rfl
theorem Fits.cnt' {t : Nat → Bool} {n : Nat} (h : Fits t n) (hn : n ≤ 4096) : cntB t 4096 = cntB t n := by
  have := h.cnt (4096 - n)
  rwa [show n + (4096 - n) = 4096 by omega] at this
theorem Fits.take {t : Nat → Bool} {n b : Nat} (h : Fits t n) (hb : b < n) : Fits (putB t b true) n := by
  refine ⟨fun k hk => ?_, ?_, ?_⟩ <;> unfold putB
  · rw [if_neg (by omega)]; exact h.off k hk
  · split
    · rfl
    · exact h.z0
  · split
    · rfl
    · exact h.z1
theorem Fits.free {t : Nat → Bool} {n b : Nat} (h : Fits t n) (hb : 2 ≤ b) : Fits (putB t b false) n := by
  refine ⟨fun k hk => ?_, ?_, ?_⟩ <;> unfold putB
  · split
    · rfl
    · exact h.off k hk
  · rw [if_neg (by omega)]; exact h.z0
  · rw [if_neg (by omega)]; exact h.z1
theorem Fits.two {n : Nat} (hn : 2 ≤ n) : Fits two n := ⟨fun b hb => two_f (by omega), rfl, rfl⟩
/-- Both maps give out the same number. -/
theorem free_meet {t o : Nat → Bool} {n b c : Nat} (h : FreeOf t o b) (k : RFree t o n c) (hn : n ≤ 4096) : (c = n → n ≤ b) ∧ (c < n → b = c) := by
  refine ⟨fun e => ?_, fun e => ?_⟩
  · rcases Nat.lt_or_ge b n with hb | hb
    · rcases h.on with h1 | h1
      · omega
      · have := k.off b (by omega)
        rw [h1] at this
        cases this
    · exact hb
  · rcases Nat.lt_trichotomy b c with hb | hb | hb
    · rcases h.on with h1 | h1
      · omega
      · have := k.off b hb
        rw [h1] at this
        cases this
    · exact hb
    · rcases k.on with h1 | h1
      · omega
      · have := h.off c hb
        rw [h1] at this
        cases this

/-- Both maps and the pages, within the law: t are taken, o were taken when they were loaded. -/
structure Side (w0 w : World) (P : PS) (tx tm : Nat) (f : Nat → Option (List Nat)) (m g q r n c d : Nat) (t o : Nat → Bool) : Prop where
  own : Own w0 w P tx tm f
  map : MapOf w m n t o
  ref : RMap w g q r n c d t o
  fits : Fits t n
  m0 : w0.heap.size ≤ m ∧ m ∉ pfoot P tx tm
  g0 : w0.heap.size ≤ g ∧ g ∉ pfoot P tx tm
  q0 : w0.heap.size ≤ q ∧ q ∉ pfoot P tx tm
  r0 : w0.heap.size ≤ r ∧ r ∉ pfoot P tx tm
  mg : m ≠ g
  mq : m ≠ q
  mr : m ≠ r
section
variable {w0 w w' : World} {P : PS} {tx tm : Nat} {f f' : Nat → Option (List Nat)} {m g q r n c d : Nat} {t o t' : Nat → Bool}
theorem Side.under (h : Side w0 w P tx tm f m g q r n c d t o) (k : Below w.heap.size w w') : Side w0 w' P tx tm f m g q r n c d t o :=
  ⟨h.own.under k, h.map.under k, h.ref.under k, h.fits, h.m0, h.g0, h.q0, h.r0, h.mg, h.mq, h.mr⟩
/-- The map has turned: the document's map and the pages stand. -/
theorem Side.mapTurned (h : Side w0 w P tx tm f m g q r n c d t o) (ho : Only [m] w w') : Own w0 w' P tx tm f ∧ RMap w' g q r n c d t o :=
  ⟨h.own.beside ho h.m0.1 h.m0.2, h.ref.only ho (by simpa using h.mg.symm) (by simpa using h.mq.symm) (by simpa using h.mr.symm)⟩
/-- The document's map has turned: the map and the pages stand. -/
theorem Side.refTurned (h : Side w0 w P tx tm f m g q r n c d t o) (ho : Only [q] w w') : Own w0 w' P tx tm f ∧ MapOf w' m n t o :=
  ⟨h.own.beside ho h.q0.1 h.q0.2, h.map.only ho (by simpa using h.mq)⟩
end
/-- Blocks of the document's map that is new lie beside all that was. -/
theorem Side.again {w0 w w' : World} {P : PS} {tx tm : Nat} {f : Nat → Option (List Nat)} {m n : Nat} {t o : Nat → Bool} {e : Ending} (hO : Own w0 w P tx tm f) (hM : MapOf w m n t o) (hm : w0.heap.size ≤ m ∧ m ∉ pfoot P tx tm) (hf : Fits t n) (hA : RAgain w n o e w') (eo : o = t) :
    ∃ g q r c d, e = .returned (.pointer (some ⟨g, 0, none⟩)) ∧ Side w0 w' P tx tm f m g q r n c d t o := by
  subst eo
  obtain ⟨g, q, r, c, d, rfl, hR, hg, hq, hr, hb⟩ := hA
  have hlt := hM.lt
  have hs := hO.below.size
  exact ⟨g, q, r, c, d, rfl, hO.under hb, hM.under hb, hR, hf, hm, ⟨by omega, hO.far hg⟩, ⟨by omega, hO.far hq⟩, ⟨by omega, hO.far hr⟩, by omega, by omega, by omega⟩
end Go.Proofs.Ytaoldopkehbhkaa
