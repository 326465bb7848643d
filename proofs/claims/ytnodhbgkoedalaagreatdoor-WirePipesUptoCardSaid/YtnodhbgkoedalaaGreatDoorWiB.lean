/-
  wire: the reader of requests, over lists of bytes, without a run, as it goes step by step; that no step asks for more; what its answers are.
-/
import Derived.Test.YtnodhbgkoedalaaGreatDoorWiA
import Derived.Test.YtnodhbgkoedalaaGreatDoorReM
import Derived.Lib.Strings
import Derived.Lib.Split
namespace Go.Proofs.YtnodhbgkoedalaaGreatDoor
namespace Wire
open Go.Lib
open Reply (tokn val trim small)

structure Rq where
  method : B
  target : B
  headers : List (B × B)
  body : B
  close : Bool
deriving DecidableEq
def zeroRq : Rq := ⟨[], [], [], [], false⟩
structure St where
  step : Nat
  size : Nat
  head : Nat
  trailers : Nat
  q : Rq
deriving DecidableEq
def s0 : St := ⟨0, 0, 0, 0, zeroRq⟩
def nHost : B := [104, 111, 115, 116]
def wClose : B := [99, 108, 111, 115, 101]
def wChunked : B := [99, 104, 117, 110, 107, 101, 100]
def http : B := [72, 84, 84, 80, 47]
def http11 : B := [72, 84, 84, 80, 47, 49, 46, 49]
def decs : B := [48, 49, 50, 51, 52, 53, 54, 55, 56, 57]
def hexs : B := decs ++ [97, 98, 99, 100, 101, 102, 65, 66, 67, 68, 69, 70]
/-- A line without its end, or a status. -/
def bare (p : B) (tooLong : Int) : B × Int :=
  if hasSuffix p [10] then
    if hasSuffix (trimSuffix p [10]) [13] && !((trimSuffix (trimSuffix p [10]) [13]).contains 13) then (trimSuffix (trimSuffix p [10]) [13], 0) else ([], 400)
  else ([], tooLong)
def isTarget (t : B) : Bool := t.all (fun c => decide (33 ≤ c.toNat ∧ c.toNat ≤ 126)) && !t.isEmpty
def isDig (c : UInt8) : Bool := decide (48 ≤ c.toNat ∧ c.toNat ≤ 57)
def isVersion (t : B) : Bool := hasPrefix t http && (match t.drop 5 with
  | [a, b, c] => isDig a && b == 46 && isDig c
  | _ => false)
def takeFirst (s : St) (p : B) : Int × St :=
  if (bare p 414).2 ≠ 0 then ((bare p 414).2, s) else if (bare p 414).1 = [] then (0, { s with step := 0 }) else
  let m := cut (bare p 414).1 [32]
  let v := cut m.2.1 [32]
  if !tokn m.1 || !isTarget v.1 || !isVersion v.2.1 then (400, s) else if v.2.1 ≠ http11 then (505, s) else
  (0, { s with step := 1, q := { s.q with method := m.1, target := v.1 } })
def values (hs : List (B × B)) (n : B) : List B := (hs.filter fun h => decide (h.1 = n)).map (·.2)
/-- What stands between the commas. -/
def pieces : B → List B
  | [] => [[]]
  | c :: l => if c = 44 then [] :: pieces l else match pieces l with
    | p :: ps => (c :: p) :: ps
    | [] => [[c]]
def isClose (p : B) : Bool := decide (small (trim p) = wClose)
def closes (hs : List (B × B)) : Bool := (values hs Reply.nCo).any fun v => (pieces v).any isClose
def hexV (c : UInt8) : Nat := if c.toNat ≤ 57 then c.toNat - 48 else if c.toNat ≤ 70 then c.toNat - 55 else c.toNat - 87
def numOf (base : Nat) (l : B) : Nat := l.foldl (fun a c => a * base + hexV c) 0
/-- The number that a text's first digits are, and what stands behind them. -/
def number (t digits : B) (base most : Nat) : Option (Nat × B) :=
  let rest := trimLeftS t digits
  let n := t.length - rest.length
  if n = 0 ∨ most < n then none else some (numOf base (t.take n), rest)
def expectLength (s : St) (ls : List B) : Int × St := match number (ls.headD []) decs 10 18 with
  | none => (400, s)
  | some (n, rest) => if 1 < ls.length ∨ rest ≠ [] then (400, s) else if 8192 < n then (413, s) else (0, { s with size := n, step := 2 })
def endHead (s : St) : Int × St :=
  let s1 := { s with q := { s.q with close := closes s.q.headers } }
  let cs := values s.q.headers Reply.nTE
  let ls := values s.q.headers Reply.nCL
  if (values s.q.headers nHost).length ≠ 1 then (400, s1)
  else if cs = [] ∧ ls = [] then (0, { s1 with step := 8 })
  else if cs = [] then expectLength s1 ls
  else if ls ≠ [] then (400, s1)
  else if 1 < cs.length ∨ small (cs.headD []) ≠ wChunked then (501, s1)
  else (0, { s1 with step := 3 })
def takeHeader (s : St) (p : B) : Int × St :=
  if (bare p 431).2 ≠ 0 then ((bare p 431).2, s) else if (bare p 431).1 = [] then endHead s else
  let s1 := { s with head := s.head + p.length }
  if 4096 < s.head + p.length ∨ s.q.headers.length = 32 then (431, s1) else
  let c := cut (bare p 431).1 [58]
  if !c.2.2 || !tokn c.1 || !val c.2.1 then (400, s1) else
  (0, { s1 with q := { s.q with headers := s.q.headers ++ [(small c.1, trim c.2.1)] } })
def takeChunkLine (s : St) (p : B) : Int × St :=
  if (bare p 400).2 ≠ 0 then ((bare p 400).2, s) else
  match number (bare p 400).1 hexs 16 8 with
  | none => (400, s)
  | some (n, rest) => if rest ≠ [] ∧ ¬ ([32, 9, 59] : B).contains (rest.headD 0) then (400, s) else if n = 0 then (0, { s with step := 7 }) else if 8192 - s.q.body.length < n then (413, s) else (0, { s with size := n, step := 4 })
def takeTrailer (s : St) (p : B) : Int × St :=
  if (bare p 431).2 = 0 ∧ (bare p 431).1 = [] then (0, { s with step := 8 }) else if s.trailers = 32 then (431, s) else ((bare p 431).2, { s with trailers := s.trailers + 1 })
def takeBody (s : St) (p : B) (next : Nat) : Int × St := (0, { s with step := next, q := { s.q with body := s.q.body ++ p } })
def expect (s : St) (p want : B) (next : Nat) : Int × St := if p ≠ want then (400, s) else (0, { s with step := next })
def take (s : St) (p : B) : Int × St :=
  if s.step = 0 then takeFirst s p
  else if s.step = 1 then takeHeader s p
  else if s.step = 2 then takeBody s p 8
  else if s.step = 3 then takeChunkLine s p
  else if s.step = 4 then takeBody s p 5
  else if s.step = 5 then expect s p [13] 6
  else if s.step = 6 then expect s p [10] 3
  else takeTrailer s p
def wants (s : St) : Option Nat := if s.step = 2 ∨ s.step = 4 then some s.size else if s.step = 5 ∨ s.step = 6 then some 1 else none
/-- The reader of requests. -/
def reader : Mach St := ⟨fun s => decide (s.step = 8), wants, take⟩
/-! ### no step asks for more -/
/-- What a step may end with. -/
def Fine (c : Int) : Prop := c = 0 ∨ 400 ≤ c ∧ c ≤ 505
theorem bare_fine (p : B) {t : Int} (ht : Fine t) : Fine (bare p t).2 := by
  unfold bare
  split
  · split
    · exact .inl rfl
    · exact .inr (by simp)
  · exact ht
theorem take_fine (s : St) (p : B) : Fine (take s p).1 := by
  have a := bare_fine p (t := 414) (.inr (by omega))
  have b := bare_fine p (t := 431) (.inr (by omega))
  have c := bare_fine p (t := 400) (.inr (by omega))
  have num : ∀ x : St, ∀ ls, Fine (expectLength x ls).1 := fun x ls => by
    unfold expectLength
    split
    · exact .inr (by simp)
    · split
      · exact .inr (by simp)
      · split
        · exact .inr (by simp)
        · exact .inl rfl
  have eh : Fine (endHead s).1 := by
    unfold endHead
    simp only []
    split
    · exact .inr (by simp)
    split
    · exact .inl rfl
    split
    · exact num _ _
    split
    · exact .inr (by simp)
    split
    · exact .inr (by simp)
    · exact .inl rfl
  have f0 : Fine (takeFirst s p).1 := by
    unfold takeFirst
    simp only []
    split
    · exact a
    split
    · exact .inl rfl
    split
    · exact .inr (by simp)
    split
    · exact .inr (by simp)
    · exact .inl rfl
  have f1 : Fine (takeHeader s p).1 := by
    unfold takeHeader
    simp only []
    split
    · exact b
    split
    · exact eh
    split
    · exact .inr (by simp)
    split
    · exact .inr (by simp)
    · exact .inl rfl
  have f3 : Fine (takeChunkLine s p).1 := by
    unfold takeChunkLine
    split
    · exact c
    split
    · exact .inr (by simp)
    split
    · exact .inr (by simp)
    split
    · exact .inl rfl
    split
    · exact .inr (by simp)
    · exact .inl rfl
  have f7 : Fine (takeTrailer s p).1 := by
    unfold takeTrailer
    split
    · exact .inl rfl
    split
    · exact .inr (by simp)
    · exact b
  have fe : ∀ w n, Fine (expect s p w n).1 := fun w n => by
    unfold expect
    split
    · exact .inr (by simp)
    · exact .inl rfl
  unfold take
  repeat' split
  all_goals first | exact f0 | exact f1 | exact f3 | exact f7 | exact fe _ _ | exact .inl rfl
theorem sure : Sure reader := fun s p h => by
  have f := take_fine s p
  rw [show (take s p).1 = -1 from h] at f
  rcases f with f | f <;> omega
/-- What a run may end with. -/
theorem runs_fine {s s' : St} {l : B} {t : Nat} {c : Int} (h : Runs reader s l t c s') : c = -1 ∨ c = 0 ∨ 400 ≤ c ∧ c ≤ 505 := by
  induction h with
  | whole _ => omega
  | more _ _ => omega
  | @stop s s' l c _ _ hr _ =>
    have f := take_fine s (l.take (size l (reader.wants s)))
    rw [show take s (l.take (size l (reader.wants s))) = (c, s') from hr] at f
    exact .inr f
  | step _ _ _ _ ih => exact ih
/-- A request takes a byte at least. -/
theorem runs_pos {l : B} {t : Nat} {s' : St} (h : Runs reader s0 l t 0 s') : 0 < t := by
  cases h with
  | whole h' => cases h'
  | stop _ _ _ hc => exact absurd rfl hc
  | step _ _ _ _ =>
    have : 0 < size l (reader.wants s0) := lineSize_pos l
    omega
/-! ### from a new reader: what Read answers -/
/-- What Read answers of the bytes: the request, how many bytes, a status. -/
def Reads (l : B) (q : Rq) (n : Nat) (c : Int) : Prop := ∃ t s, Runs reader s0 l t c s ∧ ((c = 0 ∧ q = s.q ∧ n = t) ∨ (c ≠ 0 ∧ q = zeroRq ∧ n = 0))
variable {l z : B} {q q2 : Rq} {n n2 : Nat} {c c2 : Int}
theorem Reads.same (h : Reads l q n c) (h2 : Reads l q2 n2 c2) : q = q2 ∧ n = n2 ∧ c = c2 := by
  obtain ⟨t, s, r, a⟩ := h
  obtain ⟨t2, s2, r2, a2⟩ := h2
  obtain ⟨rfl, rfl, rfl⟩ := r.same r2
  rcases a with ⟨a1, rfl, rfl⟩ | ⟨a1, rfl, rfl⟩ <;> rcases a2 with ⟨b1, rfl, rfl⟩ | ⟨b1, rfl, rfl⟩
  · exact ⟨rfl, rfl, rfl⟩
  · exact absurd a1 b1
  · exact absurd b1 a1
  · exact ⟨rfl, rfl, rfl⟩
/-- Not a byte behind is looked at; what is refused stays refused. -/
theorem Reads.app (h : Reads l q n c) (hc : c ≠ -1) (z : B) : Reads (l ++ z) q n c := by
  obtain ⟨t, s, r, a⟩ := h
  exact ⟨t, s, r.app hc z, a⟩
/-- Where more is wanted, more is either refused, or takes more than there was. -/
theorem Reads.more (h : Reads l q n (-1)) (h2 : Reads (l ++ z) q2 n2 c2) : q = q2 ∨ l.length < n2 := by
  obtain ⟨t, s, r, a⟩ := h
  obtain ⟨t2, s2, r2, a2⟩ := h2
  rcases a with ⟨a1, _, _⟩ | ⟨_, rfl, _⟩
  · omega
  · rcases a2 with ⟨rfl, _, rfl⟩ | ⟨_, rfl, _⟩
    · exact .inr (r.far sure r2)
    · exact .inl rfl
/-- A status comes with no bytes; a request takes some, of those that are there. -/
theorem Reads.some_ (h : Reads l q n c) (hc : c ≠ -1) : (c = 0 ∧ 1 ≤ n ∧ n ≤ l.length) ∨ (400 ≤ c ∧ c ≤ 505 ∧ n = 0) := by
  obtain ⟨t, s, r, a⟩ := h
  rcases a with ⟨rfl, _, rfl⟩ | ⟨a1, _, rfl⟩
  · exact .inl ⟨rfl, runs_pos r, r.le⟩
  · have := runs_fine r
    exact .inr ⟨by omega, by omega, rfl⟩
/-- Each beginning of a request wants more. -/
theorem Reads.before (h : Reads l q n 0) {j : Nat} (hj : j < n) (h2 : Reads (l.take j) q2 n2 c2) : n2 = 0 ∧ c2 = -1 := by
  obtain ⟨t, s, r, a⟩ := h
  obtain ⟨t2, s2, r2, a2⟩ := h2
  rcases a with ⟨_, _, rfl⟩ | ⟨a1, _⟩
  · obtain rfl := r.before hj r2
    rcases a2 with ⟨a2, _⟩ | ⟨_, _, rfl⟩
    · omega
    · exact ⟨rfl, rfl⟩
  · exact absurd rfl a1
end Wire
end Go.Proofs.YtnodhbgkoedalaaGreatDoor
