/-
  xml: what Parse makes of a text, without a run: a function over lists of bytes, piece by piece as the reader goes. Fuel stands for how deep and how often it goes: more of it than there are bytes is enough.
-/
import Derived.Lib.Strings
import Derived.Lib.Split
import Derived.Lib.IndexAny
import Derived.Lib.SlTrimSet
import Derived.Lib.Replace
import Derived.Lib.IndexMore
namespace Go.Proofs.YteefjmdallpihaaGreatDoor
namespace Xml
open Go.Lib

abbrev B := List UInt8
/-- A node: its text, Space, Name, attributes, kids. -/
inductive Nd where
  | mk (text space name : B) (attrs : List (B × B)) (kids : List Nd)
def Nd.text : Nd → B | .mk t _ _ _ _ => t
def Nd.space : Nd → B | .mk _ s _ _ _ => s
def Nd.name : Nd → B | .mk _ _ n _ _ => n
def Nd.attrs : Nd → List (B × B) | .mk _ _ _ a _ => a
def Nd.kids : Nd → List Nd | .mk _ _ _ _ k => k
/-- The reader: what isn't read yet, and the namespaces that are declared. -/
structure St where
  rest : B
  spaces : List (B × B)
/-- What a piece of the reading ends with: an error's number, or an answer and the reader behind it. -/
inductive Res (α : Type) where
  | bad (e : Nat)
  | ok (a : α) (s : St)
def Res.then {α β : Type} (r : Res α) (f : α → St → Res β) : Res β := match r with
  | .bad e => .bad e
  | .ok a s => f a s
def whites : B := [9, 10, 13, 32]
def begins (c : UInt8) : Bool := decide (97 ≤ c.toNat ∧ c.toNat ≤ 122) || decide (65 ≤ c.toNat ∧ c.toNat ≤ 90) || c == 95 || decide (128 ≤ c.toNat)
def goesOn (c : UInt8) : Bool := decide (48 ≤ c.toNat ∧ c.toNat ≤ 57) || c == 45 || c == 46
def nameRest (l : B) : Nat := (l.takeWhile fun c => begins c || goesOn c).length
/-- How many bytes at the beginning of a text are a name. -/
def nameLen : B → Nat
  | [] => 0
  | c :: l => if begins c then nameRest l + 1 else 0
def take (s : St) (n : Nat) : B × St := (s.rest.take n, { s with rest := s.rest.drop n })
def skip (s : St) (t : B) : Bool × St := (hasPrefix s.rest t, { s with rest := trimPrefix s.rest t })
def need (s : St) (t : B) : Res Unit := if hasPrefix s.rest t then .ok () { s with rest := trimPrefix s.rest t } else .bad 30
def upto (s : St) (e : B) : Res B := if (cut s.rest e).2.2 then .ok (cut s.rest e).1 { s with rest := (cut s.rest e).2.1 } else .bad 30
/-- The bytes ahead of the first of some others, or all that is left. -/
def plain (s : St) (others : B) : B × St := if indexAny s.rest others < 0 then take s s.rest.length else take s (indexAny s.rest others).toNat
def white (s : St) : Bool × St := (decide ((trimLeftS s.rest whites).length < s.rest.length), { s with rest := trimLeftS s.rest whites })
def name (s : St) : Res B := if nameLen s.rest = 0 then .bad 30 else .ok (s.rest.take (nameLen s.rest)) { s with rest := s.rest.drop (nameLen s.rest) }
def fullName (s : St) : Res B := (name s).then fun n s => if (skip s [58]).1 then (name (skip s [58]).2).then fun m s => .ok (n ++ [58] ++ m) s else .ok n (skip s [58]).2
def tXml : B := [60, 63, 120, 109, 108]
def tCom : B := [60, 33, 45, 45]
def tPi : B := [60, 63]
def tPiEnd : B := [63, 62]
def tCdata : B := [60, 33, 91, 67, 68, 65, 84, 65, 91]
def tCdataEnd : B := [93, 93, 62]
def wXml : B := [120, 109, 108]
def wXmlns : B := [120, 109, 108, 110, 115]
def declaration (s : St) : Res Unit := if (skip s tXml).1 && (white (skip s tXml).2).1 then (upto (white (skip s tXml).2).2 tPiEnd).then fun _ s => .ok () s else .ok () s
def comment (s : St) : Res Bool := if (skip s tCom).1 then (upto (skip s tCom).2 [45, 45]).then fun _ s => (need s [62]).then fun _ s => .ok true s else .ok false s
/-- Is a name 'xml', in whatever letters? -/
def isXml (n : B) : Bool := n.map (fun c => if 65 ≤ c.toNat ∧ c.toNat ≤ 90 then c + 32 else c) == wXml
def instruction (s : St) : Res Bool := if (skip s tPi).1 then (name (skip s tPi).2).then fun n s => if isXml n then .bad 30 else (upto s tPiEnd).then fun _ s => .ok true s else .ok false s
/-- A comment, or an instruction, if one comes next. -/
def remark (s : St) : Res Bool := (comment s).then fun b s => if b then .ok true s else instruction s
def aside : Nat → St → Res Unit
  | 0, _ => .bad 0
  | f + 1, s => if (white s).1 then aside f (white s).2 else (remark (white s).2).then fun b s => if b then aside f s else .ok () s
def unify (l : B) : B := replaceAll (replaceAll l [13, 10] [10]) [13] [10]
def flatten (l : B) : B := replaceAll (replaceAll l [10] [32]) [9] [32]
def hasB (l sub : B) : Bool := decide (0 ≤ index l sub)
/-! ### what stands behind a & -/
/-- Is a letter of Unicode's one of XML's? -/
def letter (c : Nat) : Bool := c == 9 || c == 10 || c == 13 || decide (32 ≤ c ∧ c ≤ 55295) || decide (57344 ≤ c ∧ c ≤ 65533) || decide (65536 ≤ c ∧ c ≤ 1114111)
/-- A letter's bytes (UTF-8). -/
def utf8 (c : Nat) : B :=
  if c < 128 then [UInt8.ofNat c]
  else if c < 2048 then [UInt8.ofNat (192 + c / 64), UInt8.ofNat (128 + c % 64)]
  else if c < 65536 then [UInt8.ofNat (224 + c / 4096), UInt8.ofNat (128 + c / 64 % 64), UInt8.ofNat (128 + c % 64)]
  else [UInt8.ofNat (240 + c / 262144), UInt8.ofNat (128 + c / 4096 % 64), UInt8.ofNat (128 + c / 64 % 64), UInt8.ofNat (128 + c % 64)]
def digit (base : Nat) (c : UInt8) : Option Nat :=
  let d := if 48 ≤ c.toNat ∧ c.toNat ≤ 57 then c.toNat - 48 else if 97 ≤ c.toNat ∧ c.toNat ≤ 122 then c.toNat - 87 else if 65 ≤ c.toNat ∧ c.toNat ≤ 90 then c.toNat - 55 else 99
  if d < base then some d else none
/-- The number that digits are; none, if they aren't digits all. -/
def numOf (base : Nat) : Nat → B → Option Nat
  | a, [] => some a
  | a, c :: l => match digit base c with
    | some d => numOf base (a * base + d) l
    | none => none
def numbered (s : St) (base : Nat) (ds : B) : Res Nat := if ds = [] ∨ 9 < ds.length then .bad 30 else match numOf base 0 ds with
  | some n => if n ≤ 1114111 ∧ letter n = true then .ok n s else .bad 30
  | none => .bad 30
def reference (s : St) : Res Nat := (upto s [59]).then fun n s =>
  if n = [108, 116] then .ok 60 s else if n = [103, 116] then .ok 62 s else if n = [97, 109, 112] then .ok 38 s else if n = [113, 117, 111, 116] then .ok 34 s else if n = [97, 112, 111, 115] then .ok 39 s
  else if hasPrefix n [35, 120] then numbered s 16 (trimPrefix n [35, 120]) else if hasPrefix n [35] then numbered s 10 (trimPrefix n [35]) else .bad 30
/-! ### texts and values -/
/-- All up to where an element begins or ends; l: what it has said so far. -/
def text : Nat → St → B → Res B
  | 0, _, _ => .bad 0
  | f + 1, s, l => (remark s).then fun b s =>
    if b then text f s l
    else if (skip s tCdata).1 then (upto (skip s tCdata).2 tCdataEnd).then fun i s => text f s (l ++ unify i)
    else if (skip s [38]).1 then (reference (skip s [38]).2).then fun c s => text f s (l ++ utf8 c)
    else if s.rest = [] ∨ s.rest.headD 0 = 60 then .ok l s
    else if hasB (plain s [60, 38]).1 tCdataEnd then .bad 30 else text f (plain s [60, 38]).2 (l ++ unify (plain s [60, 38]).1)
/-- What stands between the quotes; l: what it has said so far. -/
def inside : Nat → St → B → Res B
  | 0, _, _ => .bad 0
  | f + 1, s, l =>
    if s.rest = [] then .ok l s
    else if (skip s [38]).1 then (reference (skip s [38]).2).then fun c s => inside f s (l ++ utf8 c)
    else inside f (plain s [38]).2 (l ++ flatten (unify (plain s [38]).1))
def quoted (f : Nat) (s : St) (q : B) : Res B := (upto s q).then fun i s => if hasB i [60] then .bad 30 else match inside f ⟨i, []⟩ [] with
  | .bad e => .bad e
  | .ok l _ => .ok l s
def value (f : Nat) (s : St) : Res B := if (skip s [34]).1 then quoted f (skip s [34]).2 [34] else (need s [39]).then fun _ s => quoted f s [39]
/-! ### elements -/
def split (w : B) : B × B := if (cut w [58]).2.2 then ((cut w [58]).1, (cut w [58]).2.1) else ([], w)
def distinct (l : List (B × B)) : Bool := decide (l.map (·.1)).Nodup
/-- The attributes of an element, those that declare a namespace, too; l: those so far. -/
def attributes : Nat → St → List (B × B) → Res (List (B × B))
  | 0, _, _ => .bad 0
  | f + 1, s, l =>
    if (white s).1 && decide (0 < nameLen (white s).2.rest) then (fullName (white s).2).then fun n s => (need (white s).2 [61]).then fun _ s => (value f (white s).2).then fun v s => attributes f s (l ++ [(n, v)])
    else if distinct l then .ok l (white s).2 else .bad 30
/-- Takes note of what is declared; l: the other attributes so far. -/
def declare : St → List (B × B) → List (B × B) → Res (List (B × B))
  | s, [], l => .ok l s
  | s, (n, v) :: r, l =>
    if (split n).1 = wXmlns then (if v ≠ [] ∧ (split n).2 ≠ wXml ∧ (split n).2 ≠ wXmlns then declare { s with spaces := s.spaces ++ [((split n).2, v)] } r l else .bad 30)
    else if n = wXmlns then declare { s with spaces := s.spaces ++ [([], v)] } r l
    else if (split n).1 = [] then declare s r (l ++ [(n, v)]) else .bad 30
/-- The namespace that is declared last for a prefix. -/
def spaceOf (l : List (B × B)) (p : B) : Option B := (l.reverse.find? fun x => decide (x.1 = p)).map (·.2)
mutual
def element : Nat → St → Res Nd
  | 0, _ => .bad 0
  | f + 1, s => (need s [60]).then fun _ s1 => (fullName s1).then fun w s2 => (attributes f s2 []).then fun as s3 => (declare s3 as []).then fun as s4 =>
    match spaceOf s4.spaces (split w).1 with
    | none => .bad 30
    | some sp =>
      if (skip s4 [47, 62]).1 then .ok (.mk [] sp (split w).2 as []) { (skip s4 [47, 62]).2 with spaces := s4.spaces.take s.spaces.length }
      else (need s4 [62]).then fun _ s5 => (content f s5 []).then fun ks s6 => (need s6 ([60, 47] ++ w)).then fun _ s7 => (need (white s7).2 [62]).then fun _ s8 =>
        .ok (.mk [] sp (split w).2 as ks) { s8 with spaces := s8.spaces.take s.spaces.length }
def content : Nat → St → List Nd → Res (List Nd)
  | 0, _, _ => .bad 0
  | f + 1, s, l => (text f s []).then fun t s =>
    let l2 := if t = [] then l else l ++ [.mk t [] [] [] []]
    if hasPrefix s.rest [60, 47] then .ok l2 s else (element f s).then fun n s => content f s (l2 ++ [n])
end
/-! ### good trees -/
/-- The letters of a text, where it is good UTF-8. -/
def runes : Nat → B → Option (List Nat)
  | _, [] => some []
  | 0, _ => none
  | f + 1, c :: l =>
    if c.toNat < 128 then (runes f l).map (fun r => c.toNat :: r)
    else match l with
      | d :: l1 =>
        if 128 ≤ d.toNat ∧ d.toNat ≤ 191 then
          (if 194 ≤ c.toNat ∧ c.toNat ≤ 223 then (runes f l1).map (fun r => ((c.toNat - 192) * 64 + (d.toNat - 128)) :: r)
          else match l1 with
            | e :: l2 =>
              if 128 ≤ e.toNat ∧ e.toNat ≤ 191 then
                (if 224 ≤ c.toNat ∧ c.toNat ≤ 239 then
                  (if (c.toNat = 224 → 160 ≤ d.toNat) ∧ (c.toNat = 237 → d.toNat ≤ 159) then (runes f l2).map (fun r => ((c.toNat - 224) * 4096 + (d.toNat - 128) * 64 + (e.toNat - 128)) :: r) else none)
                else match l2 with
                  | g :: l3 => if 128 ≤ g.toNat ∧ g.toNat ≤ 191 ∧ 240 ≤ c.toNat ∧ c.toNat ≤ 244 ∧ (c.toNat = 240 → 144 ≤ d.toNat) ∧ (c.toNat = 244 → d.toNat ≤ 143) then (runes f l3).map (fun r => ((c.toNat - 240) * 262144 + (d.toNat - 128) * 4096 + (e.toNat - 128) * 64 + (g.toNat - 128)) :: r) else none
                  | [] => none)
              else none
            | [] => none)
        else none
      | [] => none
def letters (l : B) : Bool := match runes l.length l with
  | some rs => rs.all letter
  | none => false
def short (l : B) : Bool := decide (l.length ≤ 60) && letters l
def isName (l : B) : Bool := decide (l ≠ []) && nameLen l == l.length
def goodName (l : B) : Bool := short l && isName l
def goodAttrs (l : List (B × B)) : Bool := l.all (fun a => goodName a.1 && decide (a.1 ≠ wXmlns) && letters a.2) && distinct l
mutual
/-- May an element stand so deep? How many nodes are counted then; none: it may not. -/
def census : Nat → Nat → Nd → Option Nat
  | n, d, .mk t sp nm as ks => if 16 < d ∨ 4096 ≤ n ∨ t ≠ [] ∨ goodName nm = false ∨ short sp = false ∨ goodAttrs as = false then none else censusAll (n + 1) d false ks
def censusAll : Nat → Nat → Bool → List Nd → Option Nat
  | n, _, _, [] => some n
  | n, d, behind, .mk t sp nm as ks :: r =>
    if nm = [] then (if behind ∨ 4096 ≤ n ∨ t = [] ∨ letters t = false ∨ sp ≠ [] ∨ as ≠ [] ∨ ks ≠ [] then none else censusAll (n + 1) d true r)
    else match census n (d + 1) (.mk t sp nm as ks) with
      | some m => censusAll m d false r
      | none => none
end
def good (n : Nd) : Bool := (census 0 1 n).isSome
/-- What Parse answers: a tree, or an error's number. -/
def parse (l : B) : Res Nd :=
  if 65536 < l.length then .bad 5 else if letters l = false then .bad 30 else
  (declaration ⟨l, [([], [])]⟩).then fun _ s => (aside (l.length + 1) s).then fun _ s => (element (l.length + 1) s).then fun n s => (aside (l.length + 1) s).then fun _ s =>
    if s.rest ≠ [] then .bad 30 else if good n = false then .bad 31 else .ok n s
end Xml
end Go.Proofs.YteefjmdallpihaaGreatDoor
