/-
  uri: what the document says of targets and paths, over lists of bytes, without a run: the letters of UTF-8, what a piece says, the pieces between slashes, Parse, Good, Text, Within; and what follows: a path written is read as the path.
-/
import Derived.Test.YtpnmddealjoiiaaDoorLaw
namespace Go.Proofs.YtpnmddealjoiiaaDoor
namespace Uri

def co (x : Nat) : Prop := 128 ≤ x ∧ x ≤ 191
instance (x : Nat) : Decidable (co x) := inferInstanceAs (Decidable (_ ∧ _))
/-- How many bytes the good letter at the front has. -/
def step (l : List Nat) : Option Nat :=
  if l.getD 0 0 < 128 then some 1
  else if 192 ≤ l.getD 0 0 ∧ l.getD 0 0 < 224 then
    (if 2 ≤ l.length ∧ co (l.getD 1 0) ∧ 128 ≤ (l.getD 0 0 - 192) * 64 + (l.getD 1 0 - 128) then some 2 else none)
  else if 224 ≤ l.getD 0 0 ∧ l.getD 0 0 < 240 then
    (if 3 ≤ l.length ∧ co (l.getD 1 0) ∧ co (l.getD 2 0) ∧ 2048 ≤ ((l.getD 0 0 - 224) * 64 + (l.getD 1 0 - 128)) * 64 + (l.getD 2 0 - 128) ∧
      (((l.getD 0 0 - 224) * 64 + (l.getD 1 0 - 128)) * 64 + (l.getD 2 0 - 128) < 55296 ∨ 57343 < ((l.getD 0 0 - 224) * 64 + (l.getD 1 0 - 128)) * 64 + (l.getD 2 0 - 128)) then some 3 else none)
  else if 240 ≤ l.getD 0 0 ∧ l.getD 0 0 < 248 then
    (if 4 ≤ l.length ∧ co (l.getD 1 0) ∧ co (l.getD 2 0) ∧ co (l.getD 3 0) ∧ 65536 ≤ (((l.getD 0 0 - 240) * 64 + (l.getD 1 0 - 128)) * 64 + (l.getD 2 0 - 128)) * 64 + (l.getD 3 0 - 128) ∧
      (((l.getD 0 0 - 240) * 64 + (l.getD 1 0 - 128)) * 64 + (l.getD 2 0 - 128)) * 64 + (l.getD 3 0 - 128) ≤ 1114111 then some 4 else none)
  else none
theorem step_range {l : List Nat} (hl : l ≠ []) {n : Nat} (h : step l = some n) : 1 ≤ n ∧ n ≤ 4 ∧ n ≤ l.length := by
  have h0 : 1 ≤ l.length := List.length_pos_iff.2 hl
  unfold step at h
  split at h
  · injection h; omega
  split at h
  · split at h
    · injection h; omega
    · cases h
  split at h
  · split at h
    · injection h; omega
    · cases h
  split at h
  · split at h
    · injection h; omega
    · cases h
  · cases h
def utf8Go : Nat → List Nat → Bool
  | 0, _ => true
  | f + 1, l => if l = [] then true else match step l with
    | none => false
    | some n => utf8Go f (l.drop n)
def utf8 (l : List Nat) : Bool := utf8Go l.length l
theorem utf8Go_more : ∀ (f g : Nat) (l : List Nat), l.length ≤ f → l.length ≤ g → utf8Go f l = utf8Go g l
  | 0, 0, _, _, _ => rfl
  | 0, g + 1, l, h, _ => by
    have : l = [] := List.eq_nil_of_length_eq_zero (by omega)
    simp [utf8Go, this]
  | f + 1, 0, l, _, h => by
    have : l = [] := List.eq_nil_of_length_eq_zero (by omega)
    simp [utf8Go, this]
  | f + 1, g + 1, l, hf, hg => by
    unfold utf8Go
    split
    · rfl
    · rename_i hl
      cases hs : step l with
      | none => rfl
      | some n =>
        have hr := step_range hl hs
        exact utf8Go_more f g _ (by simp; omega) (by simp; omega)
theorem utf8_nil : utf8 [] = true := rfl
theorem utf8_step {l : List Nat} (hl : l ≠ []) {n : Nat} (h : step l = some n) : utf8 l = utf8 (l.drop n) := by
  have hr := step_range hl h
  unfold utf8
  obtain ⟨m, hm⟩ : ∃ m, l.length = m + 1 := ⟨l.length - 1, by omega⟩
  conv => lhs; rw [hm]; unfold utf8Go
  rw [if_neg hl, h]
  exact utf8Go_more _ _ _ (by simp; omega) (Nat.le_refl _)
theorem utf8_none {l : List Nat} (hl : l ≠ []) (h : step l = none) : utf8 l = false := by
  have : 1 ≤ l.length := List.length_pos_iff.2 hl
  unfold utf8
  obtain ⟨m, hm⟩ : ∃ m, l.length = m + 1 := ⟨l.length - 1, by omega⟩
  rw [hm]
  unfold utf8Go
  rw [if_neg hl, h]

/-- A digit of base 16. -/
def hex (c : Nat) : Option Nat := if 48 ≤ c ∧ c ≤ 57 then some (c - 48) else if 97 ≤ c ∧ c ≤ 102 then some (c - 87) else if 65 ≤ c ∧ c ≤ 70 then some (c - 55) else none
def hexI (c : Nat) : Int := match hex c with
  | none => -1
  | some x => (x : Int)
theorem hex_lt {c x : Nat} (h : hex c = some x) : x < 16 := by
  unfold hex at h
  repeat' split at h
  all_goals first | (injection h; omega) | cases h
/-- A digit, written. -/
def dig (x : Nat) : Nat := if x < 10 then 48 + x else 55 + x
def digS (x : Nat) : Nat := if x < 10 then 48 + x else 87 + x
theorem hex_dig {x : Nat} (h : x < 16) : hex (dig x) = some x := by
  unfold dig hex
  split
  · rw [if_pos (by omega)]; simp
  · rw [if_neg (by omega), if_neg (by omega), if_pos (by omega)]; congr 1; omega
theorem hex_digS {x : Nat} (h : x < 16) : hex (digS x) = some x := by
  unfold digS hex
  split
  · rw [if_pos (by omega)]; simp
  · rw [if_neg (by omega), if_pos (by omega)]; congr 1; omega

/-- Each % with its two digits is a byte. -/
def dec : List Nat → Option (List Nat)
  | [] => some []
  | c :: r => if c = 37 then (match r with
      | a :: b :: r' => (match hex a, hex b with
        | some x, some y => (dec r').map ((x * 16 + y) :: ·)
        | _, _ => none)
      | _ => none)
    else (dec r).map (c :: ·)
theorem dec_nil : dec [] = some [] := by unfold dec; rfl
theorem dec_plain {c : Nat} (h : c ≠ 37) (r : List Nat) : dec (c :: r) = (dec r).map (c :: ·) := by
  rw [dec.eq_def]; simp only; rw [if_neg h]
theorem dec_pct {a b x y : Nat} (ha : hex a = some x) (hb : hex b = some y) (r : List Nat) : dec (37 :: a :: b :: r) = (dec r).map ((x * 16 + y) :: ·) := by
  conv => lhs; unfold dec
  simp only [if_true, ha, hb]
theorem dec_bad {a b : Nat} (h : hex a = none ∨ hex b = none) (r : List Nat) : dec (37 :: a :: b :: r) = none := by
  conv => lhs; unfold dec
  simp only [if_true]
  rcases h with h | h
  · rw [h]
  · rw [h]; cases hex a <;> rfl
theorem dec_short {r : List Nat} (h : r.length < 2) : dec (37 :: r) = none := by
  conv => lhs; unfold dec
  simp only [if_true]
  match r, h with
  | [], _ => rfl
  | [_], _ => rfl
/-- The bytes of a piece that was read are bytes, and no more than the piece's. -/
theorem dec_bytes : ∀ {p s : List Nat}, (∀ x ∈ p, x < 256) → dec p = some s → (∀ x ∈ s, x < 256) ∧ s.length ≤ p.length
  | [], s, _, h => by
    rw [dec_nil] at h
    injection h with h
    subst h
    exact ⟨by simp, Nat.le_refl _⟩
  | c :: r, s, hp, h => by
    by_cases hc : c = 37
    · subst hc
      match r, hp, h with
      | [], _, h => rw [dec_short (by simp)] at h; cases h
      | [_], _, h => rw [dec_short (by simp)] at h; cases h
      | a :: b :: r', hp, h =>
        cases ha : hex a with
        | none => rw [dec_bad (.inl ha)] at h; cases h
        | some x =>
          cases hb : hex b with
          | none => rw [dec_bad (.inr hb)] at h; cases h
          | some y =>
            rw [dec_pct ha hb] at h
            obtain ⟨s', hs', rfl⟩ := Option.map_eq_some_iff.1 h
            have ih := dec_bytes (p := r') (fun z hz => hp z (by simp [hz])) hs'
            have h1 := hex_lt ha
            have h2 := hex_lt hb
            refine ⟨fun z hz => ?_, by simp; omega⟩
            rcases List.mem_cons.1 hz with rfl | hz
            · omega
            · exact ih.1 z hz
    · rw [dec_plain hc] at h
      obtain ⟨s', hs', rfl⟩ := Option.map_eq_some_iff.1 h
      have ih := dec_bytes (p := r) (fun z hz => hp z (by simp [hz])) hs'
      refine ⟨fun z hz => ?_, by simp; omega⟩
      rcases List.mem_cons.1 hz with rfl | hz
      · exact hp z (by simp)
      · exact ih.1 z hz

/-- What a piece says. -/
def fine (s : List Nat) : Bool := !decide (0 ∈ s) && !decide (47 ∈ s) && utf8 s
def says (p : List Nat) : Option (List Nat) := (dec p).filter fine
theorem says_bytes {p s : List Nat} (hp : ∀ x ∈ p, x < 256) (h : says p = some s) : (∀ x ∈ s, x < 256) ∧ s.length ≤ p.length ∧ fine s = true := by
  obtain ⟨h1, h2⟩ := Option.filter_eq_some_iff.1 h
  exact ⟨(dec_bytes hp h1).1, (dec_bytes hp h1).2, h2⟩

/-- The pieces between slashes. -/
def pieces : List Nat → List (List Nat)
  | [] => [[]]
  | c :: r => if c = 47 then [] :: pieces r else match pieces r with
    | [] => [[c]]
    | p :: ps => (c :: p) :: ps
theorem pieces_ne : ∀ l : List Nat, pieces l ≠ []
  | [] => by simp [pieces]
  | c :: r => by
    unfold pieces
    split
    · simp
    · split <;> simp
theorem pieces_slash (r : List Nat) : pieces (47 :: r) = [] :: pieces r := by conv => lhs; unfold pieces; simp
theorem pieces_cons {c : Nat} (h : c ≠ 47) {r p : List Nat} {ps : List (List Nat)} (hr : pieces r = p :: ps) : pieces (c :: r) = (c :: p) :: ps := by
  unfold pieces; rw [if_neg h, hr]
theorem pieces_app : ∀ {a : List Nat}, 47 ∉ a → ∀ r, pieces (a ++ 47 :: r) = a :: pieces r
  | [], _, r => by simp [pieces_slash]
  | c :: a, h, r => by
    rw [List.cons_append]
    exact pieces_cons (fun e => h (by simp [e])) (pieces_app (fun hm => h (by simp [hm])) r)
theorem pieces_one : ∀ {a : List Nat}, 47 ∉ a → pieces a = [a]
  | [], _ => rfl
  | c :: a, h => pieces_cons (fun e => h (by simp [e])) (pieces_one (fun hm => h (by simp [hm])))
theorem pieces_bytes : ∀ {l : List Nat}, (∀ x ∈ l, x < 256) → ∀ p ∈ pieces l, ∀ x ∈ p, x < 256
  | [], _, p, hp => by
    simp [pieces] at hp
    subst hp
    simp
  | c :: r, h, p, hp => by
    have ih := pieces_bytes (l := r) (fun x hx => h x (by simp [hx]))
    unfold pieces at hp
    split at hp
    · rcases List.mem_cons.1 hp with rfl | hp
      · simp
      · exact ih p hp
    · split at hp
      · simp at hp
        subst hp
        intro x hx
        exact h x (by simpa using .inl (by simpa using hx))
      · rename_i q qs hq
        rcases List.mem_cons.1 hp with rfl | hp
        · intro x hx
          rcases List.mem_cons.1 hx with rfl | hx
          · exact h x (by simp)
          · exact ih q (by rw [hq]; simp) x hx
        · exact ih p (by rw [hq]; simp [hp])

def vis (x : Nat) : Bool := decide (33 ≤ x ∧ x ≤ 126 ∧ x ≠ 63 ∧ x ≠ 35)
def visible (l : List Nat) : Bool := l.all vis

/-- What Parse answers. -/
abbrev Ans := List (List Nat) × Bool × Int
def dots (s : List Nat) : Bool := decide (s = [] ∨ s = [46] ∨ s = [46, 46])
def walk : List (List Nat) → List (List Nat) → Bool → Ans
  | [], path, dir => if 12 < path.length then ([], false, 5) else (path, dir, 0)
  | p :: ps, path, _ => match says p with
    | none => ([], false, 20)
    | some s =>
      if 64 < s.length then ([], false, 5)
      else if s = [46, 46] then (if path = [] then ([], false, 20) else walk ps path.dropLast true)
      else if dots s then walk ps path true
      else walk ps (path ++ [s]) false
/-- What is read behind http:// and what stands between. -/
def http : List Nat := [104, 116, 116, 112, 58, 47, 47]
def till (l : List Nat) : List Nat := l.dropWhile (· ≠ 47)
def front (t : List Nat) : Option (List Nat) :=
  if t.take 7 = http then
    (if till (t.drop 7) = t.drop 7 then none
     else if till (t.drop 7) = [] then (if visible t then some [47] else none)
     else some (till (t.drop 7)))
  else some t
def rest (t : List Nat) : Ans :=
  if visible t = true ∧ t.head? = some 47 then walk (pieces t.tail) [] false else ([], false, 20)
def parse (t : List Nat) : Ans := match front t with
  | none => ([], false, 20)
  | some t => rest t

/-- A segment; a path; its form. -/
def seg (s : List Nat) : Bool := !dots s && decide (s.length ≤ 64) && fine s
def good (path : List (List Nat)) : Bool := path.all seg && decide (path.length ≤ 12)
def plain (c : Nat) : Bool := decide ((97 ≤ c ∧ c ≤ 122) ∨ (65 ≤ c ∧ c ≤ 90) ∨ (48 ≤ c ∧ c ≤ 57) ∨ c = 45 ∨ c = 46 ∨ c = 95 ∨ c = 126)
def enc1 (c : Nat) : List Nat := if plain c then [c] else [37, dig (c / 16), dig (c % 16)]
def enc (s : List Nat) : List Nat := s.flatMap enc1
def form (path : List (List Nat)) : List Nat := path.flatMap fun s => 47 :: enc s
def text (path : List (List Nat)) : List Nat := if good path then (if form path = [] then [47] else form path) else []
def within (a b : List (List Nat)) : Bool := decide (b.length ≤ a.length ∧ a.take b.length = b)

/-! what follows -/
theorem dec_enc1 {c : Nat} (h : c < 256) (r : List Nat) : dec (enc1 c ++ r) = (dec r).map (c :: ·) := by
  unfold enc1
  split
  · rename_i hp
    have : c ≠ 37 := fun e => by subst e; simp [plain] at hp
    exact dec_plain this r
  · have := dec_pct (hex_dig (x := c / 16) (by omega)) (hex_dig (x := c % 16) (by omega)) r
    rw [show c / 16 * 16 + c % 16 = c by omega] at this
    exact this
theorem dec_enc_app : ∀ {s : List Nat}, (∀ x ∈ s, x < 256) → ∀ r, dec (enc s ++ r) = (dec r).map (s ++ ·)
  | [], _, r => by simp [enc]
  | c :: s, h, r => by
    have e : enc (c :: s) = enc1 c ++ enc s := by simp [enc]
    rw [e, List.append_assoc, dec_enc1 (h c (by simp)), dec_enc_app (fun x hx => h x (by simp [hx]))]
    cases dec r <;> simp
theorem dec_enc {s : List Nat} (h : ∀ x ∈ s, x < 256) : dec (enc s) = some s := by
  have := dec_enc_app h []
  rw [List.append_nil, dec_nil] at this
  simpa using this
theorem plain_vis {c : Nat} (h : plain c = true) : vis c = true ∧ c ≠ 47 := by
  simp only [plain, vis, decide_eq_true_eq] at h ⊢
  omega
theorem dig_vis {x : Nat} (h : x < 16) : vis (dig x) = true ∧ dig x ≠ 47 := by
  unfold dig
  simp only [vis, decide_eq_true_eq]
  split <;> omega
theorem enc1_vis {c : Nat} (h : c < 256) : ∀ x ∈ enc1 c, vis x = true ∧ x ≠ 47 := by
  intro x hx
  unfold enc1 at hx
  split at hx
  · rename_i hp
    have : x = c := by simpa using hx
    subst this
    exact plain_vis hp
  · have h1 := dig_vis (x := c / 16) (by omega)
    have h2 := dig_vis (x := c % 16) (by omega)
    simp only [List.mem_cons, List.not_mem_nil, or_false] at hx
    rcases hx with rfl | rfl | rfl
    · exact ⟨by decide, by decide⟩
    · exact h1
    · exact h2
theorem enc_vis {s : List Nat} (h : ∀ x ∈ s, x < 256) : ∀ x ∈ enc s, vis x = true ∧ x ≠ 47 := by
  intro x hx
  obtain ⟨c, hc, hx⟩ := List.mem_flatMap.1 hx
  exact enc1_vis (h c hc) x hx
theorem form_vis {path : List (List Nat)} (h : ∀ s ∈ path, ∀ x ∈ s, x < 256) : ∀ x ∈ form path, vis x = true := by
  intro x hx
  obtain ⟨s, hs, hx⟩ := List.mem_flatMap.1 hx
  rcases List.mem_cons.1 hx with rfl | hx
  · decide
  · exact (enc_vis (h s hs) x hx).1
theorem visible_of {l : List Nat} (h : ∀ x ∈ l, vis x = true) : visible l = true := by
  unfold visible
  rw [List.all_eq_true]
  exact h
theorem form_cons (s : List Nat) (path : List (List Nat)) : form (s :: path) = 47 :: (enc s ++ form path) := by simp [form]
theorem form_head {path : List (List Nat)} (h : path ≠ []) : (form path).head? = some 47 := by
  cases path with
  | nil => exact absurd rfl h
  | cons s r => rw [form_cons]; rfl
theorem form_nil {path : List (List Nat)} : form path = [] ↔ path = [] := by
  cases path with
  | nil => simp [form]
  | cons s r => simp [form_cons]
theorem enc_slash {s : List Nat} (h : ∀ x ∈ s, x < 256) : 47 ∉ enc s := fun hm => (enc_vis h 47 hm).2 rfl
/-- The pieces of a form, and what stands behind it. -/
theorem pieces_form : ∀ {path : List (List Nat)}, (∀ s ∈ path, ∀ x ∈ s, x < 256) → ∀ r : List Nat, pieces (form path ++ 47 :: r).tail = path.map enc ++ pieces r
  | [], _, r => by simp [form]
  | s :: path, h, r => by
    rw [form_cons]
    show pieces (enc s ++ form path ++ 47 :: r) = _
    rw [List.append_assoc]
    have hs := enc_slash (h s (by simp))
    have ih := pieces_form (path := path) (fun x hx => h x (by simp [hx])) r
    rcases path with _ | ⟨s2, path⟩
    · simp only [form, List.flatMap_nil, List.nil_append]
      rw [pieces_app hs]
      rfl
    · rw [form_cons] at ih ⊢
      rw [List.cons_append, pieces_app hs]
      show enc s :: pieces (enc s2 ++ form path ++ 47 :: r) = _
      have ih' : pieces (enc s2 ++ form path ++ 47 :: r) = _ := ih
      rw [ih']
      rfl
theorem pieces_form' {path : List (List Nat)} (hp : path ≠ []) (h : ∀ s ∈ path, ∀ x ∈ s, x < 256) : pieces (form path).tail = path.map enc := by
  induction path with
  | nil => exact absurd rfl hp
  | cons s path ih =>
    rw [form_cons]
    show pieces (enc s ++ form path) = _
    have hs := enc_slash (h s (by simp))
    rcases path with _ | ⟨s2, path⟩
    · simp only [form, List.flatMap_nil, List.append_nil]
      rw [pieces_one hs]
      rfl
    · have ih' := ih (by simp) (fun x hx => h x (by simp [hx]))
      rw [form_cons] at ih' ⊢
      rw [pieces_app hs]
      show enc s :: pieces (enc s2 ++ form path) = _
      have ih'' : pieces (enc s2 ++ form path) = _ := ih'
      rw [ih'']
      rfl
theorem seg_parts {s : List Nat} (h : seg s = true) : dots s = false ∧ s.length ≤ 64 ∧ fine s = true := by
  unfold seg at h
  simp only [Bool.and_eq_true, Bool.not_eq_true', decide_eq_true_eq] at h
  exact ⟨h.1.1, h.1.2, h.2⟩
theorem seg_of {s : List Nat} (h1 : dots s = false) (h2 : s.length ≤ 64) (h3 : fine s = true) : seg s = true := by
  unfold seg
  simp [h1, h2, h3]
theorem says_enc {s : List Nat} (h : ∀ x ∈ s, x < 256) : says (enc s) = if fine s then some s else none := by
  unfold says
  rw [dec_enc h]
  simp [Option.filter]
theorem walk_seg {s : List Nat} (h : ∀ x ∈ s, x < 256) (hs : seg s = true) (ps path : List (List Nat)) (dir : Bool) : walk (enc s :: ps) path dir = walk ps (path ++ [s]) false := by
  obtain ⟨h1, h2, h3⟩ := seg_parts hs
  conv => lhs; unfold walk
  rw [says_enc h, if_pos h3]
  simp only
  rw [if_neg (by omega), if_neg (fun e => by subst e; simp [dots] at h1), if_neg (by simp [h1])]
theorem walk_segs : ∀ {segs : List (List Nat)}, (∀ s ∈ segs, (∀ x ∈ s, x < 256) ∧ seg s = true) → ∀ (ps path : List (List Nat)) (dir : Bool), walk (segs.map enc ++ ps) path dir = walk ps (path ++ segs) (if segs = [] then dir else false)
  | [], _, ps, path, dir => by simp
  | s :: segs, h, ps, path, dir => by
    rw [List.map_cons, List.cons_append, walk_seg (h s (by simp)).1 (h s (by simp)).2, walk_segs (fun x hx => h x (by simp [hx]))]
    simp
theorem good_parts {path : List (List Nat)} (h : good path = true) : (∀ s ∈ path, seg s = true) ∧ path.length ≤ 12 := by
  unfold good at h
  simp only [Bool.and_eq_true, List.all_eq_true, decide_eq_true_eq] at h
  exact h
theorem take7 {t : List Nat} (h : t.head? = some 47) : t.take 7 ≠ http := by
  cases t with
  | nil => cases h
  | cons c r =>
    have : c = 47 := by simpa using h
    subst this
    simp [http]
theorem parse_slash {t : List Nat} (h : t.head? = some 47) : parse t = rest t := by
  unfold parse front
  rw [if_neg (take7 h)]
theorem rest_ok {t : List Nat} (hv : visible t = true) (h : t.head? = some 47) : rest t = walk (pieces t.tail) [] false := by
  unfold rest
  rw [if_pos ⟨hv, h⟩]
/-- P9.3: a path written is read as the path. -/
theorem parse_text {path : List (List Nat)} (hb : ∀ s ∈ path, ∀ x ∈ s, x < 256) (h : good path = true) : parse (text path) = (path, decide (path = []), 0) := by
  obtain ⟨h1, h2⟩ := good_parts h
  unfold text
  rw [if_pos h]
  by_cases hp : path = []
  · subst hp
    rw [if_pos (by simp [form])]
    rw [parse_slash rfl, rest_ok (by decide) rfl]
    simp [pieces, walk, says, dec_nil, fine, utf8_nil, dots, Option.filter]
  · rw [if_neg (fun e => hp (form_nil.1 e)), parse_slash (form_head hp), rest_ok (visible_of (form_vis hb)) (form_head hp), pieces_form' hp hb]
    have := walk_segs (segs := path) (fun s hs => ⟨hb s hs, h1 s hs⟩) [] [] false
    rw [List.append_nil] at this
    rw [this]
    simp [walk, hp]
    omega
/-- What is read is a path; what isn't read has none. -/
theorem walk_good : ∀ (ps path : List (List Nat)) (dir : Bool), (∀ p ∈ ps, ∀ x ∈ p, x < 256) → (∀ s ∈ path, (∀ x ∈ s, x < 256) ∧ seg s = true) →
    ((walk ps path dir).2.2 = 0 ∧ good (walk ps path dir).1 = true ∧ (∀ s ∈ (walk ps path dir).1, ∀ x ∈ s, x < 256)) ∨ ((walk ps path dir) = ([], false, 5)) ∨ (walk ps path dir) = ([], false, 20)
  | [], path, dir, _, h => by
    unfold walk
    split
    · exact .inr (.inl rfl)
    · refine .inl ⟨rfl, ?_, fun s hs => (h s hs).1⟩
      unfold good
      simp only [Bool.and_eq_true, List.all_eq_true, decide_eq_true_eq]
      exact ⟨fun s hs => (h s hs).2, by omega⟩
  | p :: ps, path, dir, hb, h => by
    unfold walk
    split
    · exact .inr (.inr rfl)
    · rename_i s hs
      have hs3 := says_bytes (hb p (by simp)) hs
      have hb' : ∀ q ∈ ps, ∀ x ∈ q, x < 256 := fun q hq => hb q (by simp [hq])
      split
      · exact .inr (.inl rfl)
      · split
        · split
          · exact .inr (.inr rfl)
          · exact walk_good ps _ _ hb' (fun s hs => h s (List.dropLast_subset _ hs))
        · split
          · exact walk_good ps _ _ hb' h
          · rename_i h64 _ hd
            refine walk_good ps _ _ hb' (fun q hq => ?_)
            rcases List.mem_append.1 hq with hq | hq
            · exact h q hq
            · have : q = s := by simpa using hq
              subst this
              exact ⟨hs3.1, seg_of (by simpa using hd) (by omega) hs3.2.2⟩
theorem front_bytes {t u : List Nat} (hb : ∀ x ∈ t, x < 256) (h : front t = some u) : ∀ x ∈ u, x < 256 := by
  unfold front at h
  split at h
  · split at h
    · cases h
    · split at h
      · split at h
        · injection h with h
          subst h
          simp
        · cases h
      · injection h with h
        subst h
        intro x hx
        exact hb x (List.mem_of_mem_drop (List.IsSuffix.mem hx (List.dropWhile_suffix _)))
  · injection h with h
    subst h
    exact hb
theorem parse_good {t : List Nat} (hb : ∀ x ∈ t, x < 256) :
    ((parse t).2.2 = 0 ∧ good (parse t).1 = true ∧ (∀ s ∈ (parse t).1, ∀ x ∈ s, x < 256)) ∨ parse t = ([], false, 5) ∨ parse t = ([], false, 20) := by
  unfold parse
  split
  · exact .inr (.inr rfl)
  · rename_i u hu
    unfold rest
    split
    · refine walk_good _ _ _ (pieces_bytes fun x hx => front_bytes hb hu x (List.mem_of_mem_tail hx)) (by simp)
    · exact .inr (.inr rfl)
end Uri
end Go.Proofs.YtpnmddealjoiiaaDoor
