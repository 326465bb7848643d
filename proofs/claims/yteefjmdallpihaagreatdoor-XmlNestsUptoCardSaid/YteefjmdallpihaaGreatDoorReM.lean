/-
  reply: what the document says of responses, over lists of bytes, without a run: statuses, headers, the form; a reader of forms; and what follows: what is written is read as it was, what is read is a form.
-/
import Derived.Lib.IndexMore
import Derived.Lib.ItoaNum
import Derived.Lib.SlTrimSet
import Derived.Lib.AtoiAllCases
namespace Go.Proofs.YteefjmdallpihaaGreatDoor
namespace Reply
open Go.Lib

abbrev B := List UInt8
def crlf : B := [13, 10]
def colon : B := [58, 32]
def version : B := [72, 84, 84, 80, 47, 49, 46, 49, 32]
def lengthName : B := [67, 111, 110, 116, 101, 110, 116, 45, 76, 101, 110, 103, 116, 104, 58, 32]
def closeLine : B := [67, 111, 110, 110, 101, 99, 116, 105, 111, 110, 58, 32, 99, 108, 111, 115, 101]
def tchars : B := [33, 35, 36, 37, 38, 39, 42, 43, 45, 46, 94, 95, 96, 124, 126]
def nCL : B := [99, 111, 110, 116, 101, 110, 116, 45, 108, 101, 110, 103, 116, 104]
def nCo : B := [99, 111, 110, 110, 101, 99, 116, 105, 111, 110]
def nTE : B := [116, 114, 97, 110, 115, 102, 101, 114, 45, 101, 110, 99, 111, 100, 105, 110, 103]
/-- The statuses and their reasons. -/
def table : List (Int × B) := [(200, [79, 75]),
  (201, [67, 114, 101, 97, 116, 101, 100]),
  (204, [78, 111, 32, 67, 111, 110, 116, 101, 110, 116]),
  (207, [77, 117, 108, 116, 105, 45, 83, 116, 97, 116, 117, 115]),
  (400, [66, 97, 100, 32, 82, 101, 113, 117, 101, 115, 116]),
  (403, [70, 111, 114, 98, 105, 100, 100, 101, 110]),
  (404, [78, 111, 116, 32, 70, 111, 117, 110, 100]),
  (405, [77, 101, 116, 104, 111, 100, 32, 78, 111, 116, 32, 65, 108, 108, 111, 119, 101, 100]),
  (409, [67, 111, 110, 102, 108, 105, 99, 116]),
  (412, [80, 114, 101, 99, 111, 110, 100, 105, 116, 105, 111, 110, 32, 70, 97, 105, 108, 101, 100]),
  (413, [67, 111, 110, 116, 101, 110, 116, 32, 84, 111, 111, 32, 76, 97, 114, 103, 101]),
  (414, [85, 82, 73, 32, 84, 111, 111, 32, 76, 111, 110, 103]),
  (415, [85, 110, 115, 117, 112, 112, 111, 114, 116, 101, 100, 32, 77, 101, 100, 105, 97, 32, 84, 121, 112, 101]),
  (422, [85, 110, 112, 114, 111, 99, 101, 115, 115, 97, 98, 108, 101, 32, 67, 111, 110, 116, 101, 110, 116]),
  (423, [76, 111, 99, 107, 101, 100]),
  (424, [70, 97, 105, 108, 101, 100, 32, 68, 101, 112, 101, 110, 100, 101, 110, 99, 121]),
  (431, [82, 101, 113, 117, 101, 115, 116, 32, 72, 101, 97, 100, 101, 114, 32, 70, 105, 101, 108, 100, 115, 32, 84, 111, 111, 32, 76, 97, 114, 103, 101]),
  (500, [73, 110, 116, 101, 114, 110, 97, 108, 32, 83, 101, 114, 118, 101, 114, 32, 69, 114, 114, 111, 114]),
  (501, [78, 111, 116, 32, 73, 109, 112, 108, 101, 109, 101, 110, 116, 101, 100]),
  (505, [72, 84, 84, 80, 32, 86, 101, 114, 115, 105, 111, 110, 32, 78, 111, 116, 32, 83, 117, 112, 112, 111, 114, 116, 101, 100]),
  (507, [73, 110, 115, 117, 102, 102, 105, 99, 105, 101, 110, 116, 32, 83, 116, 111, 114, 97, 103, 101])]
def reason (s : Int) : B := ((table.find? fun p => p.1 == s).map (·.2)).getD []
def tokB (c : UInt8) : Bool := decide (97 ≤ c.toNat ∧ c.toNat ≤ 122) || decide (65 ≤ c.toNat ∧ c.toNat ≤ 90) || decide (48 ≤ c.toNat ∧ c.toNat ≤ 57) || tchars.contains c
def tokn (l : B) : Bool := l.all tokB && !l.isEmpty
def valB (c : UInt8) : Bool := !(decide (c.toNat < 32) && decide (c.toNat ≠ 9)) && decide (c.toNat ≠ 127)
def val (l : B) : Bool := l.all valB
def trim (l : B) : B := trimS l [32, 9]
def low (c : UInt8) : UInt8 := if 65 ≤ c.toNat ∧ c.toNat ≤ 90 then c + 32 else c
def small (l : B) : B := l.map low
/-- May a response have this header? -/
def hdr (h : B × B) : Bool := tokn h.1 && val h.2 && decide (trim h.2 = h.2) && !(decide (small h.1 = nCL) || decide (small h.1 = nCo) || decide (small h.1 = nTE))
structure Rs where
  status : Int
  headers : List (B × B)
  body : B
  head : Bool
  close : Bool
deriving DecidableEq
def good (r : Rs) : Bool := !(reason r.status).isEmpty && decide (r.headers.length ≤ 32) && decide (r.body.length ≤ 65536) && r.headers.all hdr && (decide (r.status ≠ 204) || decide (r.body = []))
def statusLine (s : Int) : B := version ++ itoa s ++ [32] ++ reason s
def lenLine (k : Nat) : B := lengthName ++ itoa k
def hdrLine (h : B × B) : B := h.1 ++ colon ++ h.2 ++ crlf
def hdrLines (l : List (B × B)) : B := l.flatMap hdrLine
/-- All but the body. -/
def top (r : Rs) (k : Nat) : B := statusLine r.status ++ crlf ++ hdrLines r.headers ++ (if r.status = 204 then [] else lenLine k ++ crlf) ++ (if r.close then closeLine ++ crlf else []) ++ crlf
def form (r : Rs) : B := top r r.body.length ++ (if r.head then [] else r.body)

/-! ### the reader -/
def takeLine (line l : B) : Bool × B := if (line ++ crlf).isPrefixOf l then (true, l.drop (line ++ crlf).length) else (false, l)
def hdr1 (l : B) : Option ((B × B) × B) :=
  if (cut l crlf).2.2 && (cut (cut l crlf).1 colon).2.2 && hdr ((cut (cut l crlf).1 colon).1, (cut (cut l crlf).1 colon).2.1) then some (((cut (cut l crlf).1 colon).1, (cut (cut l crlf).1 colon).2.1), (cut l crlf).2.1) else none
def hdrs : Nat → B → List (B × B) × B
  | 0, l => ([], l)
  | n + 1, l => match hdr1 l with
    | none => ([], l)
    | some (h, z) => (h :: (hdrs n z).1, (hdrs n z).2)
def statusAt (l : B) : Option (Int × B) := ((table.map (·.1)).find? fun s => (statusLine s ++ crlf).isPrefixOf l).map fun s => (s, l.drop (statusLine s ++ crlf).length)
def lenAt (l : B) : Option (Nat × B) := ((List.range 65537).find? fun k => (lenLine k ++ crlf).isPrefixOf l).map fun k => (k, l.drop (lenLine k ++ crlf).length)
def lenOf (s : Int) (l : B) : Option (Nat × B) := if s = 204 then some (0, l) else lenAt l
/-- What stands ahead of the body: the status, the headers, the length, whether it is the last one, and the rest. -/
def readTop (l : B) : Option (Int × List (B × B) × Nat × Bool × B) :=
  match statusAt l with
  | none => none
  | some (s, l1) => match lenOf s (hdrs 32 l1).2 with
    | none => none
    | some (k, l3) => if (takeLine [] (takeLine closeLine l3).2).1 then some (s, (hdrs 32 l1).1, k, (takeLine closeLine l3).1, (takeLine [] (takeLine closeLine l3).2).2) else none
def read (l : B) (head : Bool) : Option (Rs × B) :=
  match readTop l with
  | none => none
  | some (s, hs, k, c, z) => if head then some (⟨s, hs, [], true, c⟩, z) else if k ≤ z.length then some (⟨s, hs, z.take k, false, c⟩, z.drop k) else none

/-! ### cutting -/
theorem pre_drop {p l : B} (h : p.isPrefixOf l = true) : l = p ++ l.drop p.length := by
  obtain ⟨t, rfl⟩ := List.isPrefixOf_iff_prefix.1 h
  simp
theorem pre_app (p z : B) : p.isPrefixOf (p ++ z) = true := List.isPrefixOf_iff_prefix.2 ⟨z, rfl⟩
theorem index_app (c : UInt8) (t : B) : ∀ (a z : B), c ∉ a → index (a ++ (c :: t) ++ z) (c :: t) = a.length
  | [], z, _ => by
    have h := pre_app (c :: t) z
    rw [List.cons_append] at h
    rw [List.nil_append, List.cons_append, index, if_pos h]
    rfl
  | x :: a, z, h => by
    have hx : ¬ x = c := fun e => h (by simp [e])
    have ih := index_app c t a z (fun hm => h (List.mem_cons_of_mem _ hm))
    have h0 : (c :: t).isPrefixOf (x :: (a ++ (c :: t) ++ z)) = false := by
      show (c == x && _) = false
      have : (c == x) = false := by rw [beq_eq_false_iff_ne]; exact fun e => hx e.symm
      rw [this]; rfl
    have e : x :: a ++ (c :: t) ++ z = x :: (a ++ (c :: t) ++ z) := by simp
    rw [e, index, h0, ih]
    have : ((a.length : Int) == -1) = false := by rw [beq_eq_false_iff_ne]; omega
    simp [this]
theorem cut_app (c : UInt8) (t a z : B) (h : c ∉ a) : cut (a ++ (c :: t) ++ z) (c :: t) = (a, z, true) := by
  unfold cut
  rw [index_app c t a z h, if_pos (by omega)]
  simp
theorem cut_back {l sep : B} (h : (cut l sep).2.2 = true) : l = (cut l sep).1 ++ sep ++ (cut l sep).2.1 := by
  unfold cut at h ⊢
  by_cases h0 : 0 ≤ index l sep
  · rw [if_pos h0]
    rcases index_spec l sep with ⟨h1, _⟩ | ⟨i, h1, h2, h3, _⟩
    · omega
    · rw [h1]
      have := pre_drop (p := sep) (l := l.drop i) h3
      simp only [Int.toNat_natCast]
      rw [List.drop_drop] at this
      rw [List.append_assoc, ← this, List.take_append_drop]
  · rw [if_neg h0] at h
    cases h
theorem crlf_cons : crlf = 13 :: [10] := rfl
theorem colon_cons : colon = 58 :: [32] := rfl
theorem cut_crlf (a z : B) (h : 13 ∉ a) : cut (a ++ crlf ++ z) crlf = (a, z, true) := cut_app 13 [10] a z h
theorem cut_colon (a z : B) (h : 58 ∉ a) : cut (a ++ colon ++ z) colon = (a, z, true) := cut_app 58 [32] a z h
/-! ### headers -/
theorem tok_no {l : B} {c : UInt8} (h : tokn l = true) (hc : tokB c = false) : c ∉ l := fun hm => by
  unfold tokn at h
  rw [Bool.and_eq_true, List.all_eq_true] at h
  rw [h.1 c hm] at hc
  cases hc
theorem val_no {l : B} {c : UInt8} (h : val l = true) (hc : valB c = false) : c ∉ l := fun hm => by
  unfold val at h
  rw [List.all_eq_true] at h
  rw [h c hm] at hc
  cases hc
theorem hdr_parts {h : B × B} (hh : hdr h = true) : tokn h.1 = true ∧ val h.2 = true ∧ trim h.2 = h.2 ∧ small h.1 ≠ nCL ∧ small h.1 ≠ nCo ∧ small h.1 ≠ nTE := by
  unfold hdr at hh
  simp only [Bool.and_eq_true, decide_eq_true_eq, Bool.not_eq_true', Bool.or_eq_false_iff, decide_eq_false_iff_not] at hh
  obtain ⟨⟨⟨a, b⟩, c⟩, ⟨d, e⟩, f⟩ := hh
  exact ⟨a, b, c, d, e, f⟩
theorem hdr1_app {h : B × B} (hh : hdr h = true) (z : B) : hdr1 (hdrLine h ++ z) = some (h, z) := by
  obtain ⟨ht, hv, _⟩ := hdr_parts hh
  have h58 : (58 : UInt8) ∉ h.1 := tok_no ht (by decide)
  have h13 : (13 : UInt8) ∉ h.1 ++ colon ++ h.2 := by
    simp only [List.mem_append, not_or]
    exact ⟨⟨tok_no ht (by decide), by decide⟩, val_no hv (by decide)⟩
  have e1 : cut (hdrLine h ++ z) crlf = (h.1 ++ colon ++ h.2, z, true) := cut_crlf _ z h13
  have e2 : cut (h.1 ++ colon ++ h.2) colon = (h.1, h.2, true) := cut_colon _ _ h58
  unfold hdr1
  simp only [e1, e2]
  simp [hh]
theorem hdr1_back {l z : B} {h : B × B} (e : hdr1 l = some (h, z)) : hdr h = true ∧ l = hdrLine h ++ z := by
  unfold hdr1 at e
  split at e
  · rename_i hc
    simp only [Bool.and_eq_true] at hc
    obtain ⟨⟨c1, c2⟩, c3⟩ := hc
    simp only [Option.some.injEq, Prod.mk.injEq] at e
    obtain ⟨rfl, rfl⟩ := e
    refine ⟨c3, ?_⟩
    have b1 := cut_back c1
    have b2 := cut_back c2
    unfold hdrLine
    simp only []
    rw [← b2]
    exact b1
  · cases e
/-- No header begins here. -/
theorem hdrs_none {l : B} (h : hdr1 l = none) (n : Nat) : hdrs n l = ([], l) := by
  cases n with
  | zero => rfl
  | succ n => rw [hdrs, h]
theorem hdrs_app : ∀ (hs : List (B × B)) (n : Nat) (z : B), hs.all hdr = true → hs.length ≤ n → (hs.length = n ∨ hdr1 z = none) → hdrs n (hdrLines hs ++ z) = (hs, z)
  | [], n, z, _, _, h => by
    rcases h with h | h
    · have : n = 0 := by simpa using h.symm
      subst this
      rfl
    · exact hdrs_none h n
  | x :: hs, 0, z, _, hl, _ => by simp at hl
  | x :: hs, n + 1, z, ha, hl, h => by
    rw [List.all_cons, Bool.and_eq_true] at ha
    have e : hdrLines (x :: hs) ++ z = hdrLine x ++ (hdrLines hs ++ z) := by unfold hdrLines; rw [List.flatMap_cons, List.append_assoc]
    have ih := hdrs_app hs n z ha.2 (by simpa using hl) (by simpa using h)
    rw [e, hdrs, hdr1_app ha.1]
    simp only [ih]
theorem hdrs_back : ∀ (n : Nat) (l : B), (hdrs n l).1.all hdr = true ∧ (hdrs n l).1.length ≤ n ∧ l = hdrLines (hdrs n l).1 ++ (hdrs n l).2
  | 0, l => ⟨rfl, Nat.le_refl _, rfl⟩
  | n + 1, l => by
    rw [hdrs]
    cases e : hdr1 l with
    | none => exact ⟨rfl, Nat.zero_le _, rfl⟩
    | some p =>
      obtain ⟨h, z⟩ := p
      obtain ⟨h1, h2⟩ := hdr1_back e
      obtain ⟨i1, i2, i3⟩ := hdrs_back n z
      refine ⟨by simp only [List.all_cons, h1, i1]; rfl, by simp only [List.length_cons]; omega, ?_⟩
      simp only [hdrLines, List.flatMap_cons] at i3 ⊢
      rw [List.append_assoc, ← i3]
      exact h2
/-! ### numerals -/
theorem dig_nat {u : Nat} (h : u < 10) : (UInt8.ofNat (48 + u)).toNat = 48 + u := by
  rw [UInt8.toNat_ofNat']
  omega
theorem decDigits_bytes (u : Nat) : ∀ c ∈ decDigits u, 48 ≤ c.toNat ∧ c.toNat ≤ 57 := by
  induction u using Nat.strongRecOn with
  | _ u ih =>
    intro c hc
    by_cases h : u < 10
    · rw [decDigits, dif_pos h] at hc
      have : c = UInt8.ofNat (48 + u) := by simpa using hc
      rw [this, dig_nat h]
      omega
    · rw [decDigits, dif_neg h] at hc
      rcases List.mem_append.1 hc with hc | hc
      · exact ih (u / 10) (by omega) c hc
      · have : c = UInt8.ofNat (48 + u % 10) := by simpa using hc
        rw [this, dig_nat (by omega)]
        omega
theorem parse_snoc : ∀ (l : B) (acc v d : Nat), parseUint10 acc l = .ok v → d < 10 → v < 1844674407370955161 → parseUint10 acc (l ++ [UInt8.ofNat (48 + d)]) = .ok (v * 10 + d)
  | [], acc, v, d, h, hd, hv => by
    simp only [parseUint10] at h
    injection h with h
    subst h
    simp only [List.nil_append, parseUint10, dig_nat hd]
    rw [if_pos (by omega), if_neg (by omega), if_neg (by omega)]
    congr 1
    omega
  | c :: r, acc, v, d, h, hd, hv => by
    simp only [parseUint10] at h
    simp only [List.cons_append, parseUint10]
    split at h
    · rename_i h1
      rw [if_pos h1]
      split at h
      · cases h
      · rename_i h2
        rw [if_neg h2]
        split at h
        · cases h
        · rename_i h3
          rw [if_neg h3]
          exact parse_snoc r _ v d h hd hv
    · cases h
theorem parse_dec (u : Nat) (hu : u < 1000000000000000000) : parseUint10 0 (decDigits u) = .ok u := by
  induction u using Nat.strongRecOn with
  | _ u ih =>
    by_cases h : u < 10
    · rw [decDigits, dif_pos h]
      have := parse_snoc [] 0 0 u rfl h (by omega)
      simpa using this
    · rw [decDigits, dif_neg h, parse_snoc _ 0 (u / 10) (u % 10) (ih (u / 10) (by omega) (by omega)) (by omega) (by omega)]
      congr 1
      omega
theorem decDigits_ne (u : Nat) : decDigits u ≠ [] := by
  rw [decDigits]
  split <;> simp
theorem atoi_dec (u : Nat) (hu : u < 1000000000000000000) : atoiAll (decDigits u) = .ok (u : Int) := by
  have hb := decDigits_bytes u
  have hp := parse_dec u hu
  have hn := decDigits_ne u
  generalize decDigits u = l at hb hp hn
  cases l with
  | nil => exact absurd rfl hn
  | cons c r =>
    have hc := hb c (by simp)
    rw [atoiAll_plain c r (by omega) (by omega)]
    unfold parseMag
    rw [if_neg (by simp), hp]
    unfold signless
    simp only
    rw [if_neg (by omega)]
theorem itoa_nat (u : Nat) : itoa (u : Int) = decDigits u := by unfold itoa; rw [if_neg (by omega)]; simp
theorem dec_inj {u v : Nat} (hu : u < 1000000000000000000) (hv : v < 1000000000000000000) (h : decDigits u = decDigits v) : u = v := by
  have a := parse_dec u hu
  rw [h, parse_dec v hv] at a
  injection a with a
  exact a.symm
theorem dec_no {u : Nat} {c : UInt8} (h : c.toNat < 48) : c ∉ decDigits u := fun hm => by
  have := (decDigits_bytes u c hm).1
  omega
/-! ### statuses -/
theorem table_is : ∀ p ∈ table, 0 ≤ p.1 ∧ p.1 ≤ 1000 ∧ reason p.1 = p.2 ∧ p.2 ≠ [] ∧ 13 ∉ p.2 := by decide
theorem reason_mem {s : Int} (h : reason s ≠ []) : s ∈ table.map (·.1) := by
  unfold reason at h
  cases e : table.find? fun p => p.1 == s with
  | none => rw [e] at h; exact absurd rfl h
  | some p =>
    have := List.find?_some e
    rw [beq_iff_eq] at this
    rw [← this]
    exact List.mem_map.2 ⟨p, List.mem_of_find?_eq_some e, rfl⟩
theorem status_is {s : Int} (h : s ∈ table.map (·.1)) : 0 ≤ s ∧ s ≤ 1000 ∧ reason s ≠ [] ∧ 13 ∉ reason s := by
  obtain ⟨p, hp, rfl⟩ := List.mem_map.1 h
  obtain ⟨a, b, c, d, e⟩ := table_is p hp
  rw [c]
  exact ⟨a, b, d, e⟩
theorem reason_iff (s : Int) : reason s ≠ [] ↔ s ∈ table.map (·.1) := ⟨reason_mem, fun h => (status_is h).2.2.1⟩
theorem itoa_pos {s : Int} (h : 0 ≤ s) : itoa s = decDigits s.toNat := by unfold itoa; rw [if_neg (by omega)]
theorem statusLine_no {s : Int} (h : s ∈ table.map (·.1)) : 13 ∉ statusLine s := by
  obtain ⟨h0, _, _, h2⟩ := status_is h
  unfold statusLine
  simp only [List.mem_append, not_or]
  rw [itoa_pos h0]
  exact ⟨⟨⟨by decide, dec_no (by decide)⟩, by decide⟩, h2⟩
theorem lenLine_no (k : Nat) : 13 ∉ lenLine k := by
  unfold lenLine
  simp only [List.mem_append, not_or]
  rw [itoa_nat]
  exact ⟨by decide, dec_no (by decide)⟩
theorem line_of {a l : B} (h : 13 ∉ a) (hp : (a ++ crlf).isPrefixOf l = true) : cut l crlf = (a, l.drop (a ++ crlf).length, true) := by
  have := pre_drop hp
  have h2 := cut_crlf a (l.drop (a ++ crlf).length) h
  rwa [← this] at h2
theorem trim_pre (a z : B) : trimPrefix (a ++ z) a = z := by
  unfold trimPrefix hasPrefix
  rw [if_pos (pre_app a z)]
  simp
/-- What the reader takes for the status of a line. -/
def digitsOf (line : B) : B := (cut (trimPrefix line version) [32]).1
theorem digits_of {s : Int} (h : 0 ≤ s) : digitsOf (statusLine s) = decDigits s.toNat := by
  unfold digitsOf statusLine
  rw [show version ++ itoa s ++ [32] ++ reason s = version ++ (itoa s ++ [32] ++ reason s) by simp, trim_pre, itoa_pos h]
  have := cut_app 32 [] (decDigits s.toNat) (reason s) (dec_no (by decide))
  rw [this]
theorem statusLine_inj {s t : Int} (hs : s ∈ table.map (·.1)) (ht : t ∈ table.map (·.1)) (h : statusLine s = statusLine t) : s = t := by
  have a := status_is hs
  have b := status_is ht
  have c := digits_of a.1
  rw [h, digits_of b.1] at c
  have := dec_inj (by omega) (by omega) c
  omega
theorem statusAt_app {s : Int} (hs : s ∈ table.map (·.1)) (z : B) : statusAt (statusLine s ++ crlf ++ z) = some (s, z) := by
  unfold statusAt
  have hp := pre_app (statusLine s ++ crlf) z
  cases e : (table.map (·.1)).find? fun t => (statusLine t ++ crlf).isPrefixOf (statusLine s ++ crlf ++ z) with
  | none =>
    have := List.find?_eq_none.1 e s hs
    simp only [hp, not_true_eq_false] at this
  | some t =>
    have ht := List.find?_some e
    have hm := List.mem_of_find?_eq_some e
    have h1 := line_of (statusLine_no hm) ht
    rw [line_of (statusLine_no hs) hp] at h1
    have : statusLine s = statusLine t := congrArg Prod.fst h1
    obtain rfl := statusLine_inj hs hm this
    simp
theorem statusAt_back {l z : B} {s : Int} (h : statusAt l = some (s, z)) : s ∈ table.map (·.1) ∧ l = statusLine s ++ crlf ++ z := by
  unfold statusAt at h
  obtain ⟨t, e, h⟩ := Option.map_eq_some_iff.1 h
  simp only [Prod.mk.injEq] at h
  obtain ⟨rfl, rfl⟩ := h
  have hp := List.find?_some e
  exact ⟨List.mem_of_find?_eq_some e, pre_drop hp⟩
theorem lenLine_inj {k j : Nat} (hk : k ≤ 65536) (hj : j ≤ 65536) (h : lenLine k = lenLine j) : k = j := by
  unfold lenLine at h
  rw [itoa_nat, itoa_nat] at h
  exact dec_inj (by omega) (by omega) (List.append_cancel_left h)
set_option maxRecDepth 100000 in
theorem lenAt_app {k : Nat} (hk : k ≤ 65536) (z : B) : lenAt (lenLine k ++ crlf ++ z) = some (k, z) := by
  unfold lenAt
  have hp := pre_app (lenLine k ++ crlf) z
  cases e : (List.range 65537).find? fun j => (lenLine j ++ crlf).isPrefixOf (lenLine k ++ crlf ++ z) with
  | none =>
    have := List.find?_eq_none.1 e k (List.mem_range.2 (by omega))
    simp only [hp, not_true_eq_false] at this
  | some j =>
    have hj := List.find?_some e
    have hm := List.mem_range.1 (List.mem_of_find?_eq_some e)
    have h1 := line_of (lenLine_no j) hj
    rw [line_of (lenLine_no k) hp] at h1
    have : lenLine k = lenLine j := congrArg Prod.fst h1
    obtain rfl := lenLine_inj hk (by omega) this
    simp
set_option maxRecDepth 100000 in
theorem lenAt_back {l z : B} {k : Nat} (h : lenAt l = some (k, z)) : k ≤ 65536 ∧ l = lenLine k ++ crlf ++ z := by
  unfold lenAt at h
  obtain ⟨t, e, h⟩ := Option.map_eq_some_iff.1 h
  simp only [Prod.mk.injEq] at h
  obtain ⟨rfl, rfl⟩ := h
  have hp := List.find?_some e
  exact ⟨by have := List.mem_range.1 (List.mem_of_find?_eq_some e); omega, pre_drop hp⟩
/-! ### lines -/
theorem takeLine_app (line z : B) : takeLine line (line ++ crlf ++ z) = (true, z) := by
  unfold takeLine
  rw [if_pos (pre_app _ _)]
  simp
theorem takeLine_back {line l : B} (h : (takeLine line l).1 = true) : l = line ++ crlf ++ (takeLine line l).2 := by
  unfold takeLine at h ⊢
  split at h
  · rename_i hp
    rw [if_pos hp]
    exact pre_drop hp
  · cases h
theorem takeLine_no {line l : B} (h : (takeLine line l).1 = false) : (takeLine line l).2 = l := by
  unfold takeLine at h ⊢
  split at h
  · cases h
  · rename_i hp
    rw [if_neg hp]
theorem hdr1_bad {line z : B} (h13 : 13 ∉ line) (hb : (cut line colon).2.2 = true → hdr ((cut line colon).1, (cut line colon).2.1) = false) : hdr1 (line ++ crlf ++ z) = none := by
  unfold hdr1
  rw [cut_crlf line z h13]
  simp only [Bool.true_and]
  split
  · rename_i h
    rw [Bool.and_eq_true] at h
    rw [hb h.1] at h
    exact absurd h.2 (by simp)
  · rfl
theorem hdr1_len (k : Nat) (z : B) : hdr1 (lenLine k ++ crlf ++ z) = none := by
  refine hdr1_bad (lenLine_no k) (fun _ => ?_)
  have e : lenLine k = [67, 111, 110, 116, 101, 110, 116, 45, 76, 101, 110, 103, 116, 104] ++ colon ++ itoa k := rfl
  rw [e, cut_colon _ _ (by decide)]
  have : small [67, 111, 110, 116, 101, 110, 116, 45, 76, 101, 110, 103, 116, 104] = nCL := by decide
  unfold hdr
  simp [this]
theorem hdr1_close (z : B) : hdr1 (closeLine ++ crlf ++ z) = none := by
  refine hdr1_bad (by decide) (fun _ => ?_)
  have e : closeLine = [67, 111, 110, 110, 101, 99, 116, 105, 111, 110] ++ colon ++ [99, 108, 111, 115, 101] := rfl
  rw [e, cut_colon _ _ (by decide)]
  decide
theorem hdr1_empty (z : B) : hdr1 (crlf ++ z) = none := by
  have := hdr1_bad (line := []) (z := z) (by simp) (fun h => by cases h)
  simpa using this
theorem close_no (z : B) : takeLine closeLine (crlf ++ z) = (false, crlf ++ z) := by
  unfold takeLine
  rw [if_neg]
  intro h
  exact absurd h (by show ¬ (List.isPrefixOf (67 :: _) (13 :: _) = true); simp [List.isPrefixOf])
/-! ### the top, read -/
theorem good_parts {r : Rs} (h : good r = true) : r.status ∈ table.map (·.1) ∧ r.headers.length ≤ 32 ∧ r.body.length ≤ 65536 ∧ r.headers.all hdr = true ∧ (r.status = 204 → r.body = []) := by
  unfold good at h
  simp only [Bool.and_eq_true, Bool.not_eq_true', decide_eq_true_eq, Bool.or_eq_true] at h
  obtain ⟨⟨⟨⟨a, b⟩, c⟩, d⟩, e⟩ := h
  refine ⟨reason_mem (by intro h; rw [h] at a; cases a), b, c, d, fun h => ?_⟩
  rcases e with e | e
  · exact absurd h e
  · exact e
theorem good_of {r : Rs} (h1 : r.status ∈ table.map (·.1)) (h2 : r.headers.length ≤ 32) (h3 : r.body.length ≤ 65536) (h4 : r.headers.all hdr = true) (h5 : r.status = 204 → r.body = []) : good r = true := by
  unfold good
  simp only [Bool.and_eq_true, Bool.not_eq_true', decide_eq_true_eq, Bool.or_eq_true]
  refine ⟨⟨⟨⟨?_, h2⟩, h3⟩, h4⟩, ?_⟩
  · cases e : reason r.status with
    | nil => exact absurd e (status_is h1).2.2.1
    | cons _ _ => rfl
  · by_cases h : r.status = 204
    · exact .inr (h5 h)
    · exact .inl h
def tail (c : Bool) (z : B) : B := (if c then closeLine ++ crlf else []) ++ crlf ++ z
theorem tail_read (c : Bool) (z : B) : (takeLine closeLine (tail c z)).1 = c ∧ takeLine [] (takeLine closeLine (tail c z)).2 = (true, z) := by
  unfold tail
  cases c
  · rw [if_neg (by simp), List.nil_append, close_no]
    exact ⟨rfl, takeLine_app [] z⟩
  · rw [if_pos rfl, List.append_assoc, takeLine_app]
    exact ⟨rfl, takeLine_app [] z⟩
theorem tail_hdr (c : Bool) (z : B) : hdr1 (tail c z) = none := by
  unfold tail
  cases c
  · rw [if_neg (by simp), List.nil_append]; exact hdr1_empty z
  · rw [if_pos rfl, List.append_assoc]; exact hdr1_close _
def lenPart (s : Int) (k : Nat) : B := if s = 204 then [] else lenLine k ++ crlf
theorem top_eq (r : Rs) (k : Nat) (z : B) : top r k ++ z = statusLine r.status ++ crlf ++ (hdrLines r.headers ++ (lenPart r.status k ++ tail r.close z)) := by
  unfold top lenPart tail
  simp only [List.append_assoc]
theorem readTop_app (r : Rs) (k : Nat) (z : B) (h1 : r.status ∈ table.map (·.1)) (h2 : r.headers.length ≤ 32) (h4 : r.headers.all hdr = true) (hk : k ≤ 65536) : readTop (top r k ++ z) = some (r.status, r.headers, if r.status = 204 then 0 else k, r.close, z) := by
  rw [top_eq]
  unfold readTop
  rw [statusAt_app h1]
  have hh : hdrs 32 (hdrLines r.headers ++ (lenPart r.status k ++ tail r.close z)) = (r.headers, lenPart r.status k ++ tail r.close z) := by
    refine hdrs_app _ _ _ h4 h2 (.inr ?_)
    unfold lenPart
    by_cases h : r.status = 204
    · rw [if_pos h, List.nil_append]; exact tail_hdr _ _
    · rw [if_neg h]; exact hdr1_len k _
  have hl : lenOf r.status (lenPart r.status k ++ tail r.close z) = some (if r.status = 204 then 0 else k, tail r.close z) := by
    unfold lenOf lenPart
    by_cases h : r.status = 204
    · rw [if_pos h, if_pos h, if_pos h, List.nil_append]
    · rw [if_neg h, if_neg h, if_neg h, lenAt_app hk]
  obtain ⟨t1, t2⟩ := tail_read r.close z
  simp only [hh, hl, t1, t2, if_true]
theorem readTop_back {l z : B} {s : Int} {hs : List (B × B)} {k : Nat} {c : Bool} (h : readTop l = some (s, hs, k, c, z)) :
    s ∈ table.map (·.1) ∧ hs.length ≤ 32 ∧ hs.all hdr = true ∧ k ≤ 65536 ∧ (s = 204 → k = 0) ∧ ∀ b hd, l = top ⟨s, hs, b, hd, c⟩ k ++ z := by
  unfold readTop at h
  cases e1 : statusAt l with
  | none => rw [e1] at h; cases h
  | some p =>
    obtain ⟨s', l1⟩ := p
    rw [e1] at h
    obtain ⟨m1, b1⟩ := statusAt_back e1
    obtain ⟨a2, n2, b2⟩ := hdrs_back 32 l1
    simp only at h
    cases e3 : lenOf s' (hdrs 32 l1).2 with
    | none => rw [e3] at h; cases h
    | some q =>
      obtain ⟨k', l3⟩ := q
      rw [e3] at h
      simp only at h
      split at h
      · rename_i h5
        simp only [Option.some.injEq, Prod.mk.injEq] at h
        obtain ⟨rfl, rfl, rfl, rfl, rfl⟩ := h
        have b5 := takeLine_back h5
        have b4 : l3 = tail (takeLine closeLine l3).1 (takeLine [] (takeLine closeLine l3).2).2 := by
          unfold tail
          cases e4 : (takeLine closeLine l3).1
          · have := takeLine_no e4
            rw [if_neg (by simp), List.nil_append]
            rw [this] at b5 ⊢
            simpa using b5
          · have := takeLine_back e4
            rw [if_pos rfl, List.append_assoc]
            rw [List.nil_append] at b5
            rw [← b5]
            exact this
        have b3 : k' ≤ 65536 ∧ (s' = 204 → k' = 0) ∧ (hdrs 32 l1).2 = lenPart s' k' ++ l3 := by
          unfold lenOf at e3
          unfold lenPart
          by_cases h : s' = 204
          · rw [if_pos h] at e3 ⊢
            simp only [Option.some.injEq, Prod.mk.injEq] at e3
            exact ⟨by omega, fun _ => e3.1.symm, by rw [e3.2]; rfl⟩
          · rw [if_neg h] at e3 ⊢
            obtain ⟨x, y⟩ := lenAt_back e3
            exact ⟨x, fun h' => absurd h' h, y⟩
        refine ⟨m1, n2, a2, b3.1, b3.2.1, fun b hd => ?_⟩
        rw [top_eq]
        simp only
        rw [← b4, ← b3.2.2, ← b2]
        exact b1
      · cases h
/-! ### the promises -/
theorem top_same (r : Rs) (b : B) (hd : Bool) (k : Nat) : top ⟨r.status, r.headers, b, hd, r.close⟩ k = top r k := rfl
/-- P12.3: what is written is read as it was. -/
theorem read_form (r : Rs) (h : good r = true) (z : B) : read (form r ++ z) r.head = some ({ r with body := if r.head then [] else r.body }, z) := by
  obtain ⟨h1, h2, h3, h4, h5⟩ := good_parts h
  unfold read form
  rw [List.append_assoc, readTop_app r _ _ h1 h2 h4 h3]
  obtain ⟨s, hs, b, hd, c⟩ := r
  cases hd
  · simp only [Bool.false_eq_true, if_false] at h5 ⊢
    have e : (if s = 204 then 0 else b.length) = b.length := by
      by_cases h' : s = 204
      · rw [if_pos h', h5 h']; rfl
      · rw [if_neg h']
    rw [e, if_pos (by simp)]
    simp
  · simp
/-- P12.2: what is read is a good response, and just those bytes are its form. -/
theorem read_back {l z : B} {hd : Bool} {r : Rs} (h : read l hd = some (r, z)) :
    good r = true ∧ r.head = hd ∧ (hd = false → l = form r ++ z) ∧ (hd = true → r.body = [] ∧ ∃ k, k ≤ 65536 ∧ (r.status = 204 → k = 0) ∧ l = top r k ++ z) := by
  unfold read at h
  cases e : readTop l with
  | none => rw [e] at h; cases h
  | some p =>
    obtain ⟨s, hs, k, c, y⟩ := p
    rw [e] at h
    obtain ⟨h1, h2, h3, h4, h5, h6⟩ := readTop_back e
    simp only at h
    cases hd
    · simp only [Bool.false_eq_true, if_false] at h
      split at h
      · rename_i hk
        simp only [Option.some.injEq, Prod.mk.injEq] at h
        obtain ⟨rfl, rfl⟩ := h
        have hl : (y.take k).length = k := by rw [List.length_take]; omega
        refine ⟨good_of h1 h2 (by simp only [hl]; exact h4) h3 (fun h => by simp only; rw [h5 h]; rfl), rfl, fun _ => ?_, fun h => by cases h⟩
        unfold form
        simp only [hl, Bool.false_eq_true, if_false]
        rw [List.append_assoc, List.take_append_drop]
        exact h6 _ _
      · cases h
    · simp only [if_true] at h
      simp only [Option.some.injEq, Prod.mk.injEq] at h
      obtain ⟨rfl, rfl⟩ := h
      exact ⟨good_of h1 h2 (by simp) h3 (fun _ => rfl), rfl, fun h => (by cases h), fun _ => ⟨rfl, k, h4, h5, h6 _ _⟩⟩
theorem top_pos (r : Rs) (k : Nat) : 0 < (top r k).length := by
  unfold top
  simp only [List.length_append]
  have : crlf.length = 2 := rfl
  omega
theorem form_pos (r : Rs) : 0 < (form r).length := by
  unfold form
  have := top_pos r r.body.length
  rw [List.length_append]
  omega
theorem read_top (r : Rs) (h : good r = true) (hh : r.head = true) (k : Nat) (hk : k ≤ 65536) (z : B) : read (top r k ++ z) true = some ({ r with body := [] }, z) := by
  obtain ⟨h1, h2, h3, h4, h5⟩ := good_parts h
  unfold read
  rw [readTop_app r _ _ h1 h2 h4 hk]
  obtain ⟨s, hs, b, hd, c⟩ := r
  simp only at hh
  subst hh
  simp
/-- P12.3: a beginning of what is written isn't read. -/
theorem read_cut (r : Rs) (h : good r = true) (n : Nat) (hn : n < (form r).length) : read ((form r).take n) r.head = none := by
  cases e : read ((form r).take n) r.head with
  | none => rfl
  | some p =>
    exfalso
    obtain ⟨q, z⟩ := p
    obtain ⟨g, hd, f1, f2⟩ := read_back e
    have hF := read_form r h []
    rw [List.append_nil] at hF
    have hlen : ((form r).take n).length = n := by rw [List.length_take]; omega
    have cutE : form r = (form r).take n ++ (form r).drop n := (List.take_append_drop n _).symm
    have hdp : 0 < ((form r).drop n).length := by rw [List.length_drop]; omega
    have key : read (form r) r.head = some ({ q with body := if q.head then [] else q.body }, z ++ (form r).drop n) := by
      cases hr : r.head with
      | false =>
        have x := f1 hr
        rw [hr] at hd
        have := read_form q g (z ++ (form r).drop n)
        rw [hd, ← List.append_assoc, ← x, ← cutE] at this
        simpa only [hd] using this
      | true =>
        obtain ⟨_, k, hk, _, x⟩ := f2 hr
        rw [hr] at hd
        have := read_top q g hd k hk (z ++ (form r).drop n)
        rw [← List.append_assoc, ← x, ← cutE] at this
        simpa only [hd, if_true] using this
    rw [key] at hF
    have hz := congrArg List.length (congrArg Prod.snd (Option.some.inj hF))
    simp only [List.length_append, List.length_nil] at hz
    omega
end Reply
end Go.Proofs.YteefjmdallpihaaGreatDoor
