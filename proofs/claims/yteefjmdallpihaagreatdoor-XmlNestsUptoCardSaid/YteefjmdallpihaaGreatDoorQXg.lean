/-
  xml: nested and wide texts, in the model.
-/
import Derived.Test.YteefjmdallpihaaGreatDoorXmE
import Derived.Test.YteefjmdallpihaaGreatDoorQX4
import Derived.Test.YteefjmdallpihaaGreatDoorXmC
namespace Go.Proofs.YteefjmdallpihaaGreatDoor
namespace Xml
open Go.Lib
def rep (t : B) : Nat → B
  | 0 => []
  | k + 1 => rep t k ++ t
theorem rep_succ (t : B) : ∀ k, rep t (k + 1) = t ++ rep t k
  | 0 => by simp [rep]
  | k + 1 => by
    show rep t (k + 1) ++ t = t ++ (rep t k ++ t)
    rw [rep_succ t k, List.append_assoc]
theorem rep_length (t : B) : ∀ k, (rep t k).length = k * t.length
  | 0 => by simp [rep]
  | k + 1 => by
    show (rep t k ++ t).length = _
    rw [List.length_append, rep_length t k, Nat.add_mul, Nat.one_mul]
def tX : B := [60, 120, 62]
def tXe : B := [60, 47, 120, 62]
def tY : B := [60, 121, 47, 62]
/-- The number that a parse answers. -/
def errOf (r : Res Nd) : Nat := match r with
  | .bad n => n
  | .ok _ _ => 0
theorem nests : ∀ k : Fin 40, errOf (parse (rep tX (k.val + 1) ++ rep tXe (k.val + 1))) = if k.val + 1 ≤ 16 then 0 else 31 := by decide +kernel
theorem letters_asc : ∀ {l : B}, (∀ c ∈ l, c.toNat < 128 ∧ letter c.toNat = true) → letters l = true
  | [], _ => rfl
  | c :: l, h => by
    have hc := h c List.mem_cons_self
    have e : stepD (c :: l) = (c.toNat, 1) := stepD_low hc.1
    rw [letters_step (by simp), e, if_neg (by show ¬ (_ = 65533 ∧ _); have := hc.1; omega)]
    show (letter c.toNat && letters (List.drop 1 (c :: l))) = true
    rw [hc.2, Bool.true_and]
    exact letters_asc (fun d hd => h d (List.mem_cons_of_mem _ hd))
def nodeY : Nd := .mk [] [] [121] [] []
section
variable {sps : List (B × B)} {r : B}
theorem white_at {c : UInt8} (h : whites.contains c = false) : (white ⟨c :: r, sps⟩).1 = false := by
  unfold white trimLeftS
  rw [List.dropWhile_cons, h]
  simp
theorem attr_none {c : UInt8} (f : Nat) (h : whites.contains c = false) : attributes (f + 1) ⟨c :: r, sps⟩ [] = .ok [] ⟨c :: r, sps⟩ := by
  have hw := white_at (sps := sps) (r := r) h
  rw [attr_stop (by rw [hw]; simp), white_no _ hw]
  rfl
theorem element_y (f : Nat) (h : spaceOf sps [] = some []) : element (f + 2) ⟨tY ++ r, sps⟩ = .ok nodeY ⟨r, sps⟩ := by
  have e1 : need ⟨tY ++ r, sps⟩ [60] = .ok () ⟨121 :: 47 :: 62 :: r, sps⟩ := rfl
  have e2 : fullName ⟨121 :: 47 :: 62 :: r, sps⟩ = .ok [121] ⟨47 :: 62 :: r, sps⟩ := rfl
  have e3 := attr_none (sps := sps) (r := 62 :: r) (c := 47) f (by decide)
  have e4 : split [121] = ([], [121]) := rfl
  have e5 : skip ⟨47 :: 62 :: r, sps⟩ [47, 62] = (true, ⟨r, sps⟩) := rfl
  rw [element_eq, e1]
  simp only [Res.then]
  rw [e2]
  simp only
  rw [e3]
  simp only
  rw [declare]
  simp only
  unfold elem2
  rw [e4, h]
  simp only [e5, if_true, List.take_length]
  rfl
theorem text_y (f : Nat) : text (f + 1) ⟨tY ++ r, sps⟩ [] = .ok [] ⟨tY ++ r, sps⟩ := by
  have h : remark ⟨tY ++ r, sps⟩ = .ok false ⟨tY ++ r, sps⟩ := rfl
  rw [text_else h]
  rfl
theorem text_e (f : Nat) : text (f + 1) ⟨60 :: 47 :: r, sps⟩ [] = .ok [] ⟨60 :: 47 :: r, sps⟩ := by
  have h : remark ⟨60 :: 47 :: r, sps⟩ = .ok false ⟨60 :: 47 :: r, sps⟩ := rfl
  rw [text_else h]
  rfl
theorem content_y (h : spaceOf sps [] = some []) : ∀ (m f : Nat) (l : List Nd), content (m + f + 3) ⟨rep tY m ++ (tXe ++ r), sps⟩ l = .ok (l ++ List.replicate m nodeY) ⟨tXe ++ r, sps⟩
  | 0, f, l => by
    have e1 : text (0 + f + 2) ⟨rep tY 0 ++ (tXe ++ r), sps⟩ [] = .ok [] ⟨tXe ++ r, sps⟩ := text_e (r := 120 :: 62 :: r) (0 + f + 1)
    have e2 : hasPrefix (tXe ++ r) [60, 47] = true := rfl
    rw [content_eq, e1]
    simp only [Res.then, e2, if_true, List.replicate_zero, List.append_nil]
  | m + 1, f, l => by
    have er : rep tY (m + 1) ++ (tXe ++ r) = tY ++ (rep tY m ++ (tXe ++ r)) := by rw [rep_succ, List.append_assoc]
    have e1 := text_y (sps := sps) (r := rep tY m ++ (tXe ++ r)) (m + f + 2)
    have e2 : hasPrefix (tY ++ (rep tY m ++ (tXe ++ r))) [60, 47] = false := rfl
    have e3 := element_y (sps := sps) (r := rep tY m ++ (tXe ++ r)) (m + f + 1) h
    rw [er, show m + 1 + f + 3 = (m + f + 3) + 1 by omega, content_eq, e1]
    simp only [Res.then, e2, if_true]
    simp only [Bool.false_eq_true, if_false]
    rw [e3]
    simp only
    rw [content_y h m f (l ++ [nodeY]), List.append_assoc]
    rfl
end
theorem census_y : ∀ (m n : Nat) (b : Bool), censusAll n 1 b (List.replicate m nodeY) = if m = 0 ∨ n + m ≤ 4096 then some (n + m) else none
  | 0, n, b => by rw [List.replicate_zero, censusAll, if_pos (.inl rfl)]; rfl
  | m + 1, n, b => by
    have e1 : census n 2 nodeY = if 4096 ≤ n then none else some (n + 1) := by
      unfold nodeY
      rw [census]
      have g1 : goodName [121] = true := by decide +kernel
      have g2 : short [] = true := by decide +kernel
      have g3 : goodAttrs [] = true := by decide +kernel
      rw [g1, g2, g3, censusAll]
      by_cases h : 4096 ≤ n
      · rw [if_pos (.inr (.inl h)), if_pos h]
      · rw [if_neg (by rintro (h | h | h | h | h | h) <;> first | omega | exact h rfl | cases h), if_neg h]
    rw [List.replicate_succ]
    conv => lhs; unfold nodeY
    rw [censusAll, if_neg (by simp)]
    rw [show Nd.mk [] [] [121] [] [] = nodeY from rfl, e1]
    by_cases h : 4096 ≤ n
    · rw [if_pos h, if_neg (by omega)]
    · rw [if_neg h]
      simp only
      rw [census_y m (n + 1) false]
      by_cases h2 : n + (m + 1) ≤ 4096
      · rw [if_pos (.inr (by omega)), if_pos (.inr h2), show n + 1 + m = n + (m + 1) by omega]
      · rw [if_neg (by omega), if_neg (by omega)]
theorem rep_mem {t : B} {c : UInt8} : ∀ {k : Nat}, c ∈ rep t k → c ∈ t
  | 0, h => by simp [rep] at h
  | k + 1, h => by
    rcases List.mem_append.1 h with h | h
    · exact rep_mem h
    · exact h
theorem wide (m : Nat) (hm : m ≤ 8000) : parse (tX ++ rep tY m ++ tXe) = if m + 1 ≤ 4096 then .ok (.mk [] [] [120] [] (List.replicate m nodeY)) ⟨[], [([], [])]⟩ else .bad 31 := by
  obtain ⟨T, hT⟩ : ∃ x, x = tX ++ rep tY m ++ tXe := ⟨_, rfl⟩
  have hT2 : T = tX ++ (rep tY m ++ (tXe ++ [])) := by rw [hT, List.append_assoc, List.append_nil]
  have hl : T.length = m * 4 + 7 := by rw [hT]; simp [rep_length, tX, tY, tXe]
  have lt : letters T = true := letters_asc (fun c hc => by
    rw [hT] at hc
    have all : ∀ d ∈ (tX ++ tY ++ tXe), d.toNat < 128 ∧ letter d.toNat = true := by decide
    refine all c ?_
    simp only [List.mem_append] at hc ⊢
    rcases hc with (hc | hc) | hc
    · exact .inl (.inl hc)
    · exact .inl (.inr (rep_mem hc))
    · exact .inr hc)
  obtain ⟨R, hR⟩ : ∃ x, x = rep tY m ++ (tXe ++ []) := ⟨_, rfl⟩
  rw [← hR] at hT2
  have hT3 : T = 60 :: 120 :: 62 :: R := hT2
  have sp0 : spaceOf [([], [])] ([] : B) = some [] := rfl
  have d0 : declaration ⟨60 :: 120 :: 62 :: R, [([], [])]⟩ = .ok () ⟨60 :: 120 :: 62 :: R, [([], [])]⟩ := rfl
  have w0 := white_at (sps := [([], [])]) (r := 120 :: 62 :: R) (c := 60) (by decide)
  have a0 : ∀ f, aside (f + 1) ⟨60 :: 120 :: 62 :: R, [([], [])]⟩ = .ok () ⟨60 :: 120 :: 62 :: R, [([], [])]⟩ := fun f => by
    rw [aside, w0, white_no _ w0]
    rfl
  have a1 : ∀ f, aside (f + 1) ⟨[], [([], [])]⟩ = .ok () ⟨[], [([], [])]⟩ := fun f => rfl
  have el : element (T.length + 1) ⟨60 :: 120 :: 62 :: R, [([], [])]⟩ = .ok (.mk [] [] [120] [] (List.replicate m nodeY)) ⟨[], [([], [])]⟩ := by
    obtain ⟨f, hf⟩ : ∃ f, T.length = m + f + 3 := ⟨m * 3 + 4, by omega⟩
    have e1 : need ⟨60 :: 120 :: 62 :: R, [([], [])]⟩ [60] = .ok () ⟨120 :: 62 :: R, [([], [])]⟩ := rfl
    have e2 : fullName ⟨120 :: 62 :: R, [([], [])]⟩ = .ok [120] ⟨62 :: R, [([], [])]⟩ := rfl
    have e3 := attr_none (sps := [([], [])]) (r := R) (c := 62) (m + f + 2) (by decide)
    have e4 : split [120] = ([], [120]) := rfl
    have e5 : skip ⟨62 :: R, [([], [])]⟩ [47, 62] = (false, ⟨62 :: R, [([], [])]⟩) := rfl
    have e6 : need ⟨62 :: R, [([], [])]⟩ [62] = .ok () ⟨R, [([], [])]⟩ := rfl
    have e7 := content_y (sps := [([], [])]) (r := []) sp0 m f []
    rw [← hR] at e7
    have e8 : need ⟨tXe ++ [], [([], [])]⟩ ([60, 47] ++ [120]) = .ok () ⟨[62], [([], [])]⟩ := rfl
    have e9 : white ⟨[62], [([], [])]⟩ = (false, ⟨[62], [([], [])]⟩) := rfl
    have e10 : need ⟨[62], [([], [])]⟩ [62] = .ok () ⟨[], [([], [])]⟩ := rfl
    rw [hf, show m + f + 3 + 1 = (m + f + 3) + 1 from rfl, element_eq, e1]
    simp only [Res.then]
    rw [e2]
    simp only
    rw [e3]
    simp only
    rw [declare]
    simp only
    unfold elem2
    rw [e4, sp0]
    simp only [e5]
    rw [e6]
    simp only [Res.then]
    rw [e7]
    simp only
    rw [e8]
    simp only
    rw [e9]
    simp only
    rw [e10]
    rfl
  have gd : good (.mk [] [] [120] [] (List.replicate m nodeY)) = decide (m + 1 ≤ 4096) := by
    unfold good
    rw [census]
    have g1 : goodName [120] = true := by decide +kernel
    have g2 : short [] = true := by decide +kernel
    have g3 : goodAttrs [] = true := by decide +kernel
    rw [g1, g2, g3, if_neg (by rintro (h | h | h | h | h | h) <;> first | omega | exact h rfl | cases h), census_y]
    by_cases h : m + 1 ≤ 4096
    · rw [if_pos (.inr (by omega)), decide_eq_true h]
      rfl
    · rw [if_neg (by omega), decide_eq_false h]
      rfl
  rw [← hT]
  unfold parse
  rw [if_neg (by omega), if_neg (by rw [lt]; simp)]
  rw [hT3, d0]
  rw [← hT3]
  simp only [Res.then]
  rw [hT3, a0]
  rw [← hT3]
  simp only
  rw [hT3] at el ⊢
  rw [el]
  simp only
  rw [a1]
  simp only
  rw [gd, if_neg (by simp)]
  by_cases h : m + 1 ≤ 4096
  · rw [decide_eq_true h, if_neg (by simp), if_pos h]
  · rw [decide_eq_false h, if_pos rfl, if_neg h]
end Xml
end Go.Proofs.YteefjmdallpihaaGreatDoor
