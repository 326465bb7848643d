/-
  xml: what Write makes of a tree, without a run.
-/
import Derived.Test.YteefjmdallpihaaGreatDoorXmC
namespace Go.Proofs.YteefjmdallpihaaGreatDoor
namespace Xml
open Go.Lib
/-- How a byte stands in a text, and in a value. -/
def escT (c : UInt8) : B := if c = 38 then [38, 97, 109, 112, 59] else if c = 60 then [38, 108, 116, 59] else if c = 62 then [38, 103, 116, 59] else if c = 13 then [38, 35, 49, 51, 59] else [c]
def escV (c : UInt8) : B := if c = 38 then [38, 97, 109, 112, 59] else if c = 60 then [38, 108, 116, 59] else if c = 34 then [38, 113, 117, 111, 116, 59] else if c = 9 then [38, 35, 57, 59] else if c = 10 then [38, 35, 49, 48, 59] else if c = 13 then [38, 35, 49, 51, 59] else [c]
def esc (v : Bool) (l : B) : B := l.flatMap (if v then escV else escT)
def attr (n v : B) : B := [32] ++ n ++ [61, 34] ++ esc true v ++ [34]
mutual
/-- The form of an element that stands in one of the Space above. -/
def form : Nd → B → B
  | .mk _ sp nm al ks, above => [60] ++ nm ++ (if sp = above then [] else attr wXmlns sp) ++ al.flatMap (fun a => attr a.1 a.2) ++ (if ks = [] then [47, 62] else [62] ++ forms ks sp ++ [60, 47] ++ nm ++ [62])
def forms : List Nd → B → B
  | [], _ => []
  | .mk t sp nm al ks :: r, above => (if nm = [] then esc false t else form (.mk t sp nm al ks) above) ++ forms r above
end
/-- How a letter stands. -/
def escR (v : Bool) (r : Nat) : B :=
  if v then (if r = 38 then [38, 97, 109, 112, 59] else if r = 60 then [38, 108, 116, 59] else if r = 34 then [38, 113, 117, 111, 116, 59] else if r = 9 then [38, 35, 57, 59] else if r = 10 then [38, 35, 49, 48, 59] else if r = 13 then [38, 35, 49, 51, 59] else utf8 r)
  else (if r = 38 then [38, 97, 109, 112, 59] else if r = 60 then [38, 108, 116, 59] else if r = 62 then [38, 103, 116, 59] else if r = 13 then [38, 35, 49, 51, 59] else utf8 r)
theorem ofNat_of {c : UInt8} {n : Nat} (h : n = c.toNat) : UInt8.ofNat n = c := by subst h; simp
theorem len3 {l : B} (h : 2 < l.length) : ∃ a b d r, l = a :: b :: d :: r := by
  rcases l with _ | ⟨a, _ | ⟨b, _ | ⟨d, r⟩⟩⟩
  · simp at h
  · simp at h
  · simp at h
  · exact ⟨a, b, d, r, rfl⟩
theorem len4 {l : B} (h : 3 < l.length) : ∃ a b d e r, l = a :: b :: d :: e :: r := by
  rcases l with _ | ⟨a, _ | ⟨b, _ | ⟨d, _ | ⟨e, r⟩⟩⟩⟩
  · simp at h
  · simp at h
  · simp at h
  · simp at h
  · exact ⟨a, b, d, e, r, rfl⟩
theorem take_utf8 {l : B} (hb : ¬ ((stepD l).1 = 65533 ∧ (stepD l).2 = 1)) (h : 128 ≤ (l.getD 0 0).toNat) : l.take (stepD l).2 = utf8 (stepD l).1 := by
  have h0 := u8_lt (l.getD 0 0)
  have h1 := u8_lt (l.getD 1 0)
  have h2 := u8_lt (l.getD 2 0)
  have h3 := u8_lt (l.getD 3 0)
  unfold stepD decodeN at hb ⊢
  rw [if_neg (by omega)] at hb ⊢
  split
  · rename_i c2
    rw [if_pos c2] at hb
    split
    · rename_i c3
      obtain ⟨a, b, r, rfl⟩ : ∃ a b r, l = a :: b :: r := by
        match l, c2.2.1 with
        | a :: b :: r, _ => exact ⟨a, b, r, rfl⟩
      simp only [List.getD_cons_zero, List.getD_cons_succ] at *
      show [a, b] = utf8 (a.toNat % 32 * 64 + b.toNat % 64)
      unfold utf8
      rw [if_neg (by omega), if_pos (by omega), ofNat_of (c := a) (by omega), ofNat_of (c := b) (by omega)]
    · rename_i c3
      rw [if_neg c3] at hb
      exact absurd ⟨rfl, rfl⟩ hb
  · rename_i c2
    rw [if_neg c2] at hb
    split
    · rename_i c3
      rw [if_pos c3] at hb
      split
      · rename_i c4
        obtain ⟨a, b, d, r, rfl⟩ : ∃ a b d r, l = a :: b :: d :: r := by
          exact len3 c3.2.2.1
        simp only [List.getD_cons_zero, List.getD_cons_succ] at *
        rw [show (a :: b :: d :: r).take 3 = [a, b, d] from rfl]
        unfold utf8
        rw [if_neg (by omega), if_neg (by omega), if_pos (by omega), ofNat_of (c := a) (by omega), ofNat_of (c := b) (by omega), ofNat_of (c := d) (by omega)]
      · rename_i c4
        rw [if_neg c4] at hb
        exact absurd ⟨rfl, rfl⟩ hb
    · rename_i c3
      rw [if_neg c3] at hb
      split
      · rename_i c4
        rw [if_pos c4] at hb
        split
        · rename_i c5
          obtain ⟨a, b, d, e, r, rfl⟩ : ∃ a b d e r, l = a :: b :: d :: e :: r := by
            exact len4 c4.2.2.2.1
          simp only [List.getD_cons_zero, List.getD_cons_succ] at *
          rw [show (a :: b :: d :: e :: r).take 4 = [a, b, d, e] from rfl]
          unfold utf8
          rw [if_neg (by omega), if_neg (by omega), if_neg (by omega), ofNat_of (c := a) (by omega), ofNat_of (c := b) (by omega), ofNat_of (c := d) (by omega), ofNat_of (c := e) (by omega)]
        · rename_i c5
          rw [if_neg c5] at hb
          exact absurd ⟨rfl, rfl⟩ hb
      · rename_i c4
        rw [if_neg c4] at hb
        exact absurd ⟨rfl, rfl⟩ hb
theorem escR_big {v : Bool} {r : Nat} (h : 128 ≤ r) : escR v r = utf8 r := by
  unfold escR
  cases v
  · simp only [Bool.false_eq_true, if_false]
    rw [if_neg (by omega), if_neg (by omega), if_neg (by omega), if_neg (by omega)]
  · simp only [if_true]
    rw [if_neg (by omega), if_neg (by omega), if_neg (by omega), if_neg (by omega), if_neg (by omega), if_neg (by omega)]
theorem esc_big {v : Bool} : ∀ {l : B}, (∀ c ∈ l, 128 ≤ c.toNat) → esc v l = l
  | [], _ => rfl
  | c :: l, h => by
    have hc := h c List.mem_cons_self
    have ih := esc_big (v := v) (l := l) (fun d hd => h d (List.mem_cons_of_mem _ hd))
    unfold esc at ih ⊢
    rw [List.flatMap_cons, ih]
    have ne : ∀ k : UInt8, k.toNat < 128 → c ≠ k := fun k hk e => by rw [e] at hc; omega
    have e : (if v then escV else escT) c = [c] := by
      cases v
      · show escT c = [c]
        unfold escT
        rw [if_neg (ne _ (by decide)), if_neg (ne _ (by decide)), if_neg (ne _ (by decide)), if_neg (ne _ (by decide))]
      · show escV c = [c]
        unfold escV
        rw [if_neg (ne _ (by decide)), if_neg (ne _ (by decide)), if_neg (ne _ (by decide)), if_neg (ne _ (by decide)), if_neg (ne _ (by decide)), if_neg (ne _ (by decide))]
    rw [e]
    rfl
theorem esc_low {v : Bool} {c : UInt8} (h : c.toNat < 128) : (if v then escV else escT) c = escR v c.toNat := by
  have key : ∀ k : Fin 128, (escV (UInt8.ofNat k.val) = escR true k.val) ∧ (escT (UInt8.ofNat k.val) = escR false k.val) := by decide +kernel
  have k := key ⟨c.toNat, h⟩
  simp only [ofNat_of (c := c) rfl] at k
  cases v
  · exact k.2
  · exact k.1
theorem esc_step {v : Bool} {l : B} (hl : l ≠ []) (hb : ¬ ((stepD l).1 = 65533 ∧ (stepD l).2 = 1)) : esc v l = escR v (stepD l).1 ++ esc v (l.drop (stepD l).2) := by
  have split : ∀ n, esc v l = esc v (l.take n) ++ esc v (l.drop n) := fun n => by
    unfold esc
    rw [← List.flatMap_append, List.take_append_drop]
  by_cases h : (l.getD 0 0).toNat < 128
  · rw [stepD_low h, split 1]
    congr 1
    obtain ⟨c, r, rfl⟩ : ∃ c r, l = c :: r := by cases l with
      | nil => exact absurd rfl hl
      | cons c r => exact ⟨c, r, rfl⟩
    have h : c.toNat < 128 := h
    show esc v [c] = escR v c.toNat
    unfold esc
    rw [List.flatMap_cons, List.flatMap_nil, List.append_nil]
    exact esc_low h
  · have h : 128 ≤ (l.getD 0 0).toNat := by omega
    have hh := stepD_high h
    have hn := stepD_len hl
    rw [split (stepD l).2]
    congr 1
    rw [escR_big hh.1, ← take_utf8 hb h]
    refine esc_big (fun c hc => ?_)
    obtain ⟨j, hj, e⟩ := List.mem_iff_getElem.1 hc
    rw [List.length_take] at hj
    have := hh.2.2 j (by omega)
    rw [List.getElem_take] at e
    rw [List.getD_eq_getElem?_getD, List.getElem?_eq_getElem (by omega)] at this
    rw [← e]
    exact this
theorem encode_utf8 {x : Nat} (h : letter x = true) : Utf8.encode (x : Int) = ⟨(utf8 x).toArray⟩ := by
  have hb : (x ≤ 55295) ∨ (57344 ≤ x ∧ x ≤ 65533) ∨ (65536 ≤ x ∧ x ≤ 1114111) := by
    unfold letter at h
    simp only [Bool.or_eq_true, beq_iff_eq, decide_eq_true_eq] at h
    omega
  have uv : Utf8.valid (x : Int) = true := by unfold Utf8.valid; simp only [Bool.or_eq_true, Bool.and_eq_true, decide_eq_true_eq]; omega
  unfold Utf8.encode utf8
  simp only [uv, if_true, Int.toNat_natCast]
  split
  · rfl
  · split
    · rfl
    · split <;> rfl
end Xml
end Go.Proofs.YteefjmdallpihaaGreatDoor
