/-
  wire: what holds of a request that is read (for WireAgain), without a run. · wire: a request that is read, written anew, is read as the same (WireAgain), without a run.
-/
import Derived.Test.YtplfceainkeokaaGreatDoorQWi
namespace Go.Proofs.YtplfceainkeokaaGreatDoor
namespace Wire
open Go.Lib
open Reply (tokn val trim small low tokB valB)

/-! ### texts trimmed, small, in capitals -/
theorem dw_idem (P : UInt8 → Bool) : ∀ l : B, (l.dropWhile P).dropWhile P = l.dropWhile P
  | [] => rfl
  | c :: r => by
    rw [List.dropWhile_cons]
    split
    · exact dw_idem P r
    · rename_i h
      rw [List.dropWhile_cons, if_neg h]
theorem dw_pre (P : UInt8 → Bool) {x y : B} (h : (x ++ y).dropWhile P = x ++ y) : x.dropWhile P = x := by
  cases x with
  | nil => rfl
  | cons c r =>
    rw [List.cons_append, List.dropWhile_cons] at h
    rw [List.dropWhile_cons]
    split
    · rename_i hp
      rw [if_pos hp] at h
      have a := dw_len P (r ++ y)
      rw [h, List.length_cons] at a
      omega
    · rfl
theorem trim_trim (l : B) : trim (trim l) = trim l := by
  unfold trim trimS trimLeftS trimRightS
  obtain ⟨r, hr⟩ : ∃ r, r = l.reverse.dropWhile (([32, 9] : B).contains ·) := ⟨_, rfl⟩
  have hi : r.dropWhile (([32, 9] : B).contains ·) = r := by rw [hr, dw_idem]
  rw [← hr]
  obtain ⟨x, hx⟩ := List.dropWhile_suffix (l := r.reverse) (([32, 9] : B).contains ·)
  obtain ⟨m, hm⟩ : ∃ m, m = r.reverse.dropWhile (([32, 9] : B).contains ·) := ⟨_, rfl⟩
  have hmi : m.dropWhile (([32, 9] : B).contains ·) = m := by rw [hm, dw_idem]
  rw [← hm] at hx ⊢
  have e : r = m.reverse ++ x.reverse := by rw [← List.reverse_append, hx, List.reverse_reverse]
  have p : m.reverse.dropWhile (([32, 9] : B).contains ·) = m.reverse := dw_pre _ (y := x.reverse) (by rw [← e]; exact hi)
  rw [p, List.reverse_reverse, hmi]
theorem trim_mem {l : B} {c : UInt8} (h : c ∈ trim l) : c ∈ l := by
  unfold trim trimS trimLeftS trimRightS at h
  have a := (List.dropWhile_suffix (([32, 9] : B).contains ·)).subset h
  rw [List.mem_reverse] at a
  have b := (List.dropWhile_suffix (([32, 9] : B).contains ·)).subset a
  rw [List.mem_reverse] at b
  exact b
theorem val_trim {l : B} (h : val l = true) : val (trim l) = true := by
  unfold val at h ⊢
  rw [List.all_eq_true] at h ⊢
  exact fun c hc => h c (trim_mem hc)
theorem low_up {c : UInt8} (h : 65 ≤ c.toNat ∧ c.toNat ≤ 90) : low c = c + 32 ∧ (c + 32).toNat = c.toNat + 32 := by
  refine ⟨by unfold low; rw [if_pos h], ?_⟩
  rw [UInt8.toNat_add]
  have : (32 : UInt8).toNat = 32 := rfl
  omega
theorem low_low (c : UInt8) : low (low c) = low c := by
  by_cases h : 65 ≤ c.toNat ∧ c.toNat ≤ 90
  · obtain ⟨e, n⟩ := low_up h
    rw [e]
    unfold low
    rw [if_neg (by omega)]
  · have e : low c = c := by unfold low; rw [if_neg h]
    rw [e, e]
theorem small_small (l : B) : small (small l) = small l := by
  unfold small
  rw [List.map_map]
  exact List.map_congr_left fun c _ => low_low c
theorem tok_low {c : UInt8} (h : tokB c = true) : tokB (low c) = true := by
  by_cases e : 65 ≤ c.toNat ∧ c.toNat ≤ 90
  · obtain ⟨e1, n⟩ := low_up e
    rw [e1]
    unfold tokB
    rw [decide_eq_true (by omega : 97 ≤ (c + 32).toNat ∧ (c + 32).toNat ≤ 122)]
    rfl
  · unfold low
    rw [if_neg e]
    exact h
theorem tokn_iff (l : B) : tokn l = true ↔ (∀ c ∈ l, tokB c = true) ∧ l ≠ [] := by
  unfold tokn
  rw [Bool.and_eq_true, List.all_eq_true, Bool.not_eq_true', List.isEmpty_eq_false_iff]
theorem tokn_small {l : B} (h : tokn l = true) : tokn (small l) = true := by
  rw [tokn_iff] at h ⊢
  refine ⟨fun c hc => ?_, fun e => h.2 (List.map_eq_nil_iff.1 e)⟩
  obtain ⟨d, hd, rfl⟩ := List.mem_map.1 hc
  exact tok_low (h.1 d hd)
/-- A letter in capitals. -/
def cap (c : UInt8) : UInt8 := if 97 ≤ c.toNat ∧ c.toNat ≤ 122 then c - 32 else c
def caps (l : B) : B := l.map cap
theorem cap_down {c : UInt8} (h : 97 ≤ c.toNat ∧ c.toNat ≤ 122) : cap c = c - 32 ∧ (c - 32).toNat = c.toNat - 32 := by
  refine ⟨by unfold cap; rw [if_pos h], ?_⟩
  rw [UInt8.toNat_sub]
  have : (32 : UInt8).toNat = 32 := rfl
  omega
theorem low_cap {c : UInt8} (h : low c = c) : low (cap c) = c := by
  by_cases e : 97 ≤ c.toNat ∧ c.toNat ≤ 122
  · obtain ⟨e1, n⟩ := cap_down e
    rw [e1, (low_up (c := c - 32) (by omega)).1]
    apply UInt8.toNat.inj
    rw [(low_up (c := c - 32) (by omega)).2]
    omega
  · have e1 : cap c = c := by unfold cap; rw [if_neg e]
    rw [e1, h]
theorem tok_cap {c : UInt8} (h : tokB c = true) : tokB (cap c) = true := by
  by_cases e : 97 ≤ c.toNat ∧ c.toNat ≤ 122
  · obtain ⟨e1, n⟩ := cap_down e
    rw [e1]
    unfold tokB
    rw [decide_eq_true (by omega : 65 ≤ (c - 32).toNat ∧ (c - 32).toNat ≤ 90), Bool.or_true]
    rfl
  · unfold cap
    rw [if_neg e]
    exact h
theorem tokn_caps {l : B} (h : tokn l = true) : tokn (caps l) = true := by
  rw [tokn_iff] at h ⊢
  refine ⟨fun c hc => ?_, fun e => h.2 (List.map_eq_nil_iff.1 e)⟩
  obtain ⟨d, hd, rfl⟩ := List.mem_map.1 hc
  exact tok_cap (h.1 d hd)
theorem small_caps {l : B} (h : small l = l) : small (caps l) = l := by
  unfold small caps at *
  rw [List.map_map]
  conv => rhs; rw [← List.map_id l]
  refine List.map_congr_left fun c hc => low_cap ?_
  have : ∀ m : B, m.map low = m → ∀ c ∈ m, low c = c := by
    intro m
    induction m with
    | nil => intro _ c hc; cases hc
    | cons d r ih =>
      intro e c hc
      rw [List.map_cons] at e
      injection e with e1 e2
      rcases List.mem_cons.1 hc with rfl | hc
      · exact e1
      · exact ih e2 c hc
  exact this l h c hc
theorem caps_len (l : B) : (caps l).length = l.length := List.length_map _
/-! ### what holds of the state between two steps -/
/-- A header as it is kept. -/
structure HOk (h : B × B) : Prop where
  tok : tokn h.1 = true
  small : small h.1 = h.1
  val : val h.2 = true
  trim : trim h.2 = h.2
def NoBody (hs : List (B × B)) : Prop := values hs Reply.nTE = [] ∧ values hs Reply.nCL = []
def Sized (hs : List (B × B)) (n : Nat) : Prop := values hs Reply.nTE = [] ∧ ∃ v, values hs Reply.nCL = [v] ∧ number v decs 10 18 = some (n, []) ∧ n ≤ 8192
def Chunked (hs : List (B × B)) : Prop := (∃ v, values hs Reply.nTE = [v] ∧ small v = wChunked) ∧ values hs Reply.nCL = []
structure Gd (s : St) : Prop where
  heads : ∀ h ∈ s.q.headers, HOk h
  sz : ∀ h ∈ s.q.headers, h.1.length + h.2.length ≤ s.head
  first : 1 ≤ s.step → tokn s.q.method = true ∧ isTarget s.q.target = true
  host : 2 ≤ s.step → (values s.q.headers nHost).length = 1 ∧ s.q.close = closes s.q.headers
  early : s.step ≤ 2 → s.q.body = []
  two : s.step = 2 → Sized s.q.headers s.size
  mid : 3 ≤ s.step → s.step ≤ 7 → Chunked s.q.headers
  end_ : s.step = 8 → (NoBody s.q.headers ∧ s.q.body = []) ∨ Sized s.q.headers s.q.body.length ∨ Chunked s.q.headers
theorem gd0 : Gd s0 := ⟨(by intro h hh; cases hh), (by intro h hh; cases hh), by intro h; exact absurd h (by decide), by intro h; exact absurd h (by decide), fun _ => rfl, by intro h; exact absurd h (by decide), by intro h; exact absurd h (by decide), by intro h; exact absurd h (by decide)⟩
variable {s s' : St} {p : B}
theorem Gd.first_ (h : Gd s) (h0 : s.step = 0) (hr : takeFirst s p = (0, s')) : Gd s' := by
  have b0 := h.early (by omega)
  unfold takeFirst at hr
  simp only [] at hr
  split at hr
  · simp only [Prod.mk.injEq] at hr; exact absurd hr.1 (by assumption)
  split at hr
  · simp only [Prod.mk.injEq, true_and] at hr
    subst hr
    refine ⟨h.heads, h.sz, ?_, ?_, fun _ => b0, ?_, ?_, ?_⟩ <;> intro e <;> exact absurd e (by simp)
  split at hr
  · simp only [Prod.mk.injEq] at hr; exact absurd hr.1 (by omega)
  rename_i hg
  split at hr
  · simp only [Prod.mk.injEq] at hr; exact absurd hr.1 (by omega)
  · simp only [Prod.mk.injEq, true_and] at hr
    simp only [Bool.or_eq_true, Bool.not_eq_true', not_or, Bool.not_eq_false] at hg
    subst hr
    refine ⟨h.heads, h.sz, fun _ => ⟨hg.1.1, hg.1.2⟩, ?_, fun _ => b0, ?_, ?_, ?_⟩ <;> intro e <;> exact absurd e (by simp)
theorem Gd.end_head (h : Gd s) (h0 : s.step = 1) (hr : endHead s = (0, s')) : Gd s' := by
  have b0 := h.early (by omega)
  have f0 := h.first (by omega)
  unfold endHead at hr
  simp only [] at hr
  split at hr
  · simp only [Prod.mk.injEq] at hr; exact absurd hr.1 (by omega)
  rename_i hh
  have hh : (values s.q.headers nHost).length = 1 := by simpa using hh
  split at hr
  · rename_i hn
    simp only [Prod.mk.injEq, true_and] at hr
    subst hr
    refine ⟨h.heads, h.sz, fun _ => f0, fun _ => ⟨hh, rfl⟩, fun _ => b0, ?_, ?_, fun _ => .inl ⟨hn, b0⟩⟩
    · intro e; simp at e
    · intro _ e; simp at e
  rename_i hn
  split at hr
  · rename_i hc
    unfold expectLength at hr
    split at hr
    · simp only [Prod.mk.injEq] at hr; exact absurd hr.1 (by omega)
    · rename_i n rest hnum
      split at hr
      · simp only [Prod.mk.injEq] at hr; exact absurd hr.1 (by omega)
      · rename_i h1
        split at hr
        · simp only [Prod.mk.injEq] at hr; exact absurd hr.1 (by omega)
        · rename_i h2
          simp only [Prod.mk.injEq, true_and] at hr
          subst hr
          have hl : ∃ v, values s.q.headers Reply.nCL = [v] := by
            cases hv : values s.q.headers Reply.nCL with
            | nil => exact absurd ⟨hc, hv⟩ hn
            | cons v t =>
              rw [hv] at h1
              cases t with
              | nil => exact ⟨v, rfl⟩
              | cons u t => exact absurd (.inl (by simp)) h1
          obtain ⟨v, hv⟩ := hl
          have hre : rest = [] := by
            by_cases e : rest = []
            · exact e
            · exact absurd (.inr e) h1
          rw [hv, List.headD_cons, hre] at hnum
          refine ⟨h.heads, h.sz, fun _ => f0, fun _ => ⟨hh, rfl⟩, fun _ => b0, fun _ => ⟨hc, v, hv, hnum, by show n ≤ 8192; omega⟩, ?_, ?_⟩ <;> intro e <;> simp at e
  rename_i hc
  split at hr
  · simp only [Prod.mk.injEq] at hr; exact absurd hr.1 (by omega)
  rename_i hl
  split at hr
  · simp only [Prod.mk.injEq] at hr; exact absurd hr.1 (by omega)
  · rename_i h1
    simp only [Prod.mk.injEq, true_and] at hr
    subst hr
    have hk : Chunked s.q.headers := by
      refine ⟨?_, by simpa using hl⟩
      cases hv : values s.q.headers Reply.nTE with
      | nil => exact absurd hv hc
      | cons v t =>
        rw [hv] at h1
        cases t with
        | nil => exact ⟨v, rfl, by simpa using h1⟩
        | cons u t => exact absurd (.inl (by simp)) h1
    refine ⟨h.heads, h.sz, fun _ => f0, fun _ => ⟨hh, rfl⟩, fun _ => b0, ?_, fun _ _ => hk, fun _ => .inr (.inr hk)⟩
    intro e
    simp at e
theorem bare_le (p : B) (t : Int) : (bare p t).1.length ≤ p.length := by
  have ts : ∀ (x y : B), (trimSuffix x y).length ≤ x.length := fun x y => by
    unfold trimSuffix
    split
    · rw [List.length_take]; omega
    · exact Nat.le_refl _
  have a := ts p [10]
  have b := ts (trimSuffix p [10]) [13]
  unfold bare
  split
  · split
    · show (trimSuffix (trimSuffix p [10]) [13]).length ≤ p.length
      omega
    · exact Nat.zero_le _
  · exact Nat.zero_le _
theorem trim_le (l : B) : (trim l).length ≤ l.length := by
  unfold trim trimS trimLeftS trimRightS
  have a := dw_len (([32, 9] : B).contains ·) (l.reverse.dropWhile (([32, 9] : B).contains ·)).reverse
  have b := dw_len (([32, 9] : B).contains ·) l.reverse
  rw [List.length_reverse] at a b
  omega
theorem Gd.header (h : Gd s) (h0 : s.step = 1) (hr : takeHeader s p = (0, s')) : Gd s' := by
  have b0 := h.early (by omega)
  have f0 := h.first (by omega)
  unfold takeHeader at hr
  simp only [] at hr
  split at hr
  · simp only [Prod.mk.injEq] at hr; exact absurd hr.1 (by assumption)
  split at hr
  · exact h.end_head h0 hr
  split at hr
  · simp only [Prod.mk.injEq] at hr; exact absurd hr.1 (by omega)
  split at hr
  · simp only [Prod.mk.injEq] at hr; exact absurd hr.1 (by omega)
  · rename_i hg
    simp only [Prod.mk.injEq, true_and] at hr
    simp only [Bool.or_eq_true, Bool.not_eq_true', not_or, Bool.not_eq_false] at hg
    subst hr
    refine ⟨fun x hx => ?_, fun x hx => ?_, fun _ => f0, ?_, fun _ => b0, ?_, ?_, ?_⟩
    · rcases List.mem_append.1 hx with hx | hx
      · exact h.heads x hx
      · rw [List.mem_singleton] at hx
        subst hx
        exact ⟨tokn_small hg.1.2, small_small _, val_trim hg.2, trim_trim _⟩
    · have pl := bare_le p 431
      rcases List.mem_append.1 hx with hx | hx
      · have := h.sz x hx
        show _ ≤ s.head + p.length
        omega
      · rw [List.mem_singleton] at hx
        subst hx
        have e := congrArg List.length (Reply.cut_back hg.1.1)
        rw [List.length_append, List.length_append] at e
        have tl := trim_le (cut (bare p 431).1 [58]).2.1
        have sl : (small (cut (bare p 431).1 [58]).1).length = (cut (bare p 431).1 [58]).1.length := List.length_map _
        show (small _).length + (trim _).length ≤ s.head + p.length
        omega
    all_goals (intro e; simp only [h0] at e; omega)
theorem Gd.body_ (h : Gd s) (hr : takeBody s p 8 = (0, s')) (h2 : s.step = 2) (hp : p.length = s.size) : Gd s' := by
  have b0 := h.early (by omega)
  unfold takeBody at hr
  simp only [Prod.mk.injEq, true_and] at hr
  subst hr
  refine ⟨h.heads, h.sz, fun _ => h.first (by omega), fun _ => h.host (by omega), ?_, ?_, ?_, fun _ => .inr (.inl ?_)⟩
  · intro e; simp at e
  · intro e; simp at e
  · intro _ e; simp at e
  · show Sized s.q.headers (s.q.body ++ p).length
    rw [b0, List.nil_append, hp]
    exact h.two h2
/-- What the steps behind the headers keep: the headers, and that they tell of chunks. -/
theorem Gd.chunk (h : Gd s) (h3 : 3 ≤ s.step) (h7 : s.step ≤ 7) (e : s'.q.headers = s.q.headers ∧ s'.q.method = s.q.method ∧ s'.q.target = s.q.target ∧ s'.q.close = s.q.close ∧ s'.head = s.head) (h3' : 3 ≤ s'.step) : Gd s' := by
  obtain ⟨e1, e2, e3, e4, e5⟩ := e
  have k := h.mid h3 h7
  refine ⟨by rw [e1]; exact h.heads, by rw [e1, e5]; exact h.sz, fun _ => by rw [e2, e3]; exact h.first (by omega), fun _ => by rw [e1, e4]; exact h.host (by omega), fun e => by omega, fun e => by omega, fun _ _ => by rw [e1]; exact k, fun _ => by rw [e1]; exact .inr (.inr k)⟩
theorem Gd.take (h : Gd s) (hw : s.step ≠ 8) (h8 : s.step ≤ 8) (hp : ∀ k, wants s = some k → p.length = k) (hr : Wire.take s p = (0, s')) : Gd s' := by
  unfold Wire.take at hr
  split at hr
  · rename_i e; exact h.first_ e hr
  split at hr
  · rename_i e; exact h.header e hr
  split at hr
  · rename_i e; exact h.body_ hr e (hp _ (by unfold wants; rw [if_pos (.inl e)]))
  split at hr
  · unfold takeChunkLine at hr
    repeat' split at hr
    all_goals
      simp only [Prod.mk.injEq] at hr
      obtain ⟨e0, rfl⟩ := hr
      first
        | (exfalso; omega)
        | exact absurd e0 (by assumption)
        | exact h.chunk (by omega) (by omega) ⟨rfl, rfl, rfl, rfl, rfl⟩ (by simp)
  split at hr
  · unfold takeBody at hr
    simp only [Prod.mk.injEq] at hr
    obtain ⟨_, rfl⟩ := hr
    exact h.chunk (by omega) (by omega) ⟨rfl, rfl, rfl, rfl, rfl⟩ (by simp)
  split at hr
  · unfold expect at hr
    split at hr <;> simp only [Prod.mk.injEq] at hr
    · exact absurd hr.1 (by omega)
    · obtain ⟨_, rfl⟩ := hr
      exact h.chunk (by omega) (by omega) ⟨rfl, rfl, rfl, rfl, rfl⟩ (by simp)
  split at hr
  · unfold expect at hr
    split at hr <;> simp only [Prod.mk.injEq] at hr
    · exact absurd hr.1 (by omega)
    · obtain ⟨_, rfl⟩ := hr
      exact h.chunk (by omega) (by omega) ⟨rfl, rfl, rfl, rfl, rfl⟩ (by simp)
  · unfold takeTrailer at hr
    repeat' split at hr
    all_goals
      simp only [Prod.mk.injEq] at hr
      obtain ⟨e0, rfl⟩ := hr
      first
        | (exfalso; omega)
        | exact h.chunk (by omega) (by omega) ⟨rfl, rfl, rfl, rfl, rfl⟩ (by simp; omega)
        | exact h.chunk (by omega) (by omega) ⟨rfl, rfl, rfl, rfl, rfl⟩ (by simp)
/-- What a run that is whole ends with. -/
theorem runs_gd {l : B} {t : Nat} {c : Int} (hr : Runs reader s l t c s') : Ok s → Gd s → c = 0 → Ok s' ∧ Gd s' ∧ s'.step = 8 := by
  induction hr with
  | whole h => intro a b _; exact ⟨a, b, by simpa [reader] using h⟩
  | more _ _ => intro _ _ e; omega
  | stop _ _ _ hc => intro _ _ e; exact absurd e hc
  | @step s s1 s' l t c hw hk hr hn ih =>
    intro a b e
    have w8 : s.step ≠ 8 := by simpa [reader] using hw
    have hp : ∀ k, wants s = some k → (l.take (size l (reader.wants s))).length = k := fun k hk' => by
      have : reader.wants s = some k := hk'
      rw [this] at hk ⊢
      rw [List.length_take]
      show min k l.length = k
      have : k ≤ l.length := hk
      omega
    exact ih (a.take w8 hp hr) (b.take w8 a.step hp hr) e
end Wire
end Go.Proofs.YtplfceainkeokaaGreatDoor

namespace Go.Proofs.YtplfceainkeokaaGreatDoor
namespace Wire
open Go.Lib
open Reply (tokn val trim small low tokB valB)

/-- A header's line, anew. -/
def hdrA (h : B × B) : B := caps h.1 ++ 58 :: ([32, 32] ++ h.2)
def hdrsA (l : List (B × B)) : B := l.flatMap fun h => hdrA h ++ eol
def sizeA (l : List (B × B)) : Nat := (l.map fun h => h.1.length + h.2.length + 5).sum
def isCh (l : List (B × B)) : Bool := l.any fun h => decide (h.1 = Reply.nTE)
def chunkA (b : B) : B := if 0 < b.length then digs 16 b.length ++ eol ++ (b ++ eol) else []
def endA : B := [48] ++ eol ++ ([] ++ eol)
def bodyA (q : Rq) : B := if isCh q.headers then chunkA q.body ++ endA else q.body
def lineA (q : Rq) : B := q.method ++ 32 :: (q.target ++ 32 :: http11)
def textA (q : Rq) : B := lineA q ++ eol ++ (hdrsA q.headers ++ ([] ++ eol ++ bodyA q))
theorem hdrsA_cons (h : B × B) (l : List (B × B)) : hdrsA (h :: l) = hdrA h ++ eol ++ hdrsA l := rfl
theorem hdrA_len (h : B × B) : (hdrA h).length = h.1.length + h.2.length + 3 := by
  unfold hdrA
  rw [List.length_append, List.length_cons, List.length_append, caps_len]
  simp
  omega
theorem cap_no {c x : UInt8} (h : tokB c = true) (hx : tokB x = false) : cap c ≠ x := fun e => by
  rw [← e, tok_cap h] at hx
  cases hx
theorem caps_no {l : B} {x : UInt8} (h : tokn l = true) (hx : tokB x = false) : x ∉ caps l := Reply.tok_no (tokn_caps h) hx
theorem hdrA_no {h : B × B} (o : HOk h) {x : UInt8} (h1 : tokB x = false) (h2 : valB x = false) (h3 : x ≠ 58 ∧ x ≠ 32) : x ∉ hdrA h := fun hm => by
  unfold hdrA at hm
  rcases List.mem_append.1 hm with hm | hm
  · exact caps_no o.tok h1 hm
  rcases List.mem_cons.1 hm with hm | hm
  · exact h3.1 hm
  rcases List.mem_append.1 hm with hm | hm
  · simp only [List.mem_cons, List.not_mem_nil, or_false, or_self] at hm
    exact h3.2 hm
  · exact Reply.val_no o.val h2 hm
variable {s s' : St} {z : B} {t : Nat} {c : Int}
theorem runs_hdrs : ∀ (l : List (B × B)) (s : St), s.step = 1 → (∀ h ∈ l, HOk h) → (∀ h ∈ l, h.1.length + h.2.length ≤ 1000) → s.head + sizeA l ≤ 4096 → s.q.headers.length + l.length ≤ 32 →
    Runs reader { s with head := s.head + sizeA l, q := { s.q with headers := s.q.headers ++ l } } z t c s' → Runs reader s (hdrsA l ++ z) ((hdrsA l).length + t) c s'
  | [], s, _, _, _, _, _, h => by
    have e : ({ s with head := s.head + sizeA [], q := { s.q with headers := s.q.headers ++ [] } } : St) = s := by simp [sizeA]
    rw [e] at h
    have e2 : (hdrsA []).length + t = t := by simp [hdrsA]
    rw [e2]
    exact h
  | x :: l, s, h1, ho, hl, hs, hc, h => by
    have ox := ho x (by simp)
    have hx := hl x (by simp)
    have es : sizeA (x :: l) = x.1.length + x.2.length + 5 + sizeA l := by unfold sizeA; rw [List.map_cons, List.sum_cons]
    rw [es] at hs h
    rw [List.length_cons] at hc
    have v2 : ([32, 32] ++ x.2).length = x.2.length + 2 := by rw [List.length_append]; exact Nat.add_comm 2 _
    have hv : val ([32, 32] ++ x.2) = true := by
      have := ox.val
      unfold Reply.val at this ⊢
      rw [List.all_append, this, Bool.and_true]
      decide
    have a := header_is (s := s) (n := caps x.1) (v := [32, 32] ++ x.2) h1 (tokn_caps ox.tok) hv (hdrA_no ox (by decide) (by decide) (by decide)) (caps_no ox.tok (by decide)) (by rw [caps_len, v2]; omega) (by omega)
    rw [small_caps ox.small, trim_white (by decide) ox.trim, caps_len, v2] at a
    have i := runs_hdrs l { s with head := s.head + (x.1.length + (x.2.length + 2) + 3), q := { s.q with headers := s.q.headers ++ [(x.1, x.2)] } } h1 (fun y hy => ho y (List.mem_cons_of_mem _ hy)) (fun y hy => hl y (List.mem_cons_of_mem _ hy)) (by show s.head + _ + sizeA l ≤ 4096; omega) (by show (s.q.headers ++ [_]).length + l.length ≤ 32; rw [List.length_append]; simp; omega) (by
      have e : ({ s with head := s.head + (x.1.length + (x.2.length + 2) + 3) + sizeA l, q := { s.q with headers := s.q.headers ++ [(x.1, x.2)] ++ l } } : St) = { s with head := s.head + (x.1.length + x.2.length + 5 + sizeA l), q := { s.q with headers := s.q.headers ++ x :: l } } := by
        congr 1
        · omega
        · rw [List.append_assoc]; rfl
      show Runs reader { s with head := s.head + (x.1.length + (x.2.length + 2) + 3) + sizeA l, q := { s.q with headers := s.q.headers ++ [(x.1, x.2)] ++ l } } z t c s'
      rw [e]
      exact h)
    have r := runs_line (s := s) (a := hdrA x) (by omega) (wants_line (by omega)) (hdrA_no ox (by decide) (by decide) (by decide)) (by rw [hdrA_len]; omega) a i
    have e1 : hdrsA (x :: l) ++ z = hdrA x ++ eol ++ (hdrsA l ++ z) := by rw [hdrsA_cons, List.append_assoc]
    have e2 : (hdrsA (x :: l)).length + t = (hdrA x).length + 2 + ((hdrsA l).length + t) := by
      rw [hdrsA_cons, List.length_append, List.length_append]
      have : eol.length = 2 := rfl
      omega
    rw [e1, e2]
    exact r
theorem any_values (hs : List (B × B)) (n : B) : (hs.any fun h => decide (h.1 = n)) = !(values hs n).isEmpty := by
  induction hs with
  | nil => rfl
  | cons h hs ih =>
    unfold values at ih ⊢
    rw [List.any_cons, List.filter_cons, ih]
    by_cases e : h.1 = n <;> simp [e]
/-- The end of the headers, by the three ways that a body comes. -/
theorem end_none (h1 : s.step = 1) (hh : (values s.q.headers nHost).length = 1) (k : NoBody s.q.headers) : take s ([] ++ eol) = (0, { s with step := 8, q := { s.q with close := closes s.q.headers } }) := by
  unfold take takeHeader endHead
  rw [if_neg (by omega), if_pos h1, bare_is (by simp)]
  simp only []
  rw [if_neg (by simp), if_pos trivial, if_neg (by rw [hh]; simp), if_pos ⟨k.1, k.2⟩]
theorem end_sized {n : Nat} (h1 : s.step = 1) (hh : (values s.q.headers nHost).length = 1) (k : Sized s.q.headers n) : take s ([] ++ eol) = (0, { s with size := n, step := 2, q := { s.q with close := closes s.q.headers } }) := by
  obtain ⟨k1, v, k2, k3, k4⟩ := k
  unfold take takeHeader endHead expectLength
  rw [if_neg (by omega), if_pos h1, bare_is (by simp)]
  simp only []
  rw [if_neg (by simp), if_pos trivial, if_neg (by rw [hh]; simp), k1, k2, if_neg (by simp), if_pos rfl]
  simp only [List.headD_cons, k3]
  rw [if_neg (by simp), if_neg (by omega)]
theorem end_chunked (h1 : s.step = 1) (hh : (values s.q.headers nHost).length = 1) (k : Chunked s.q.headers) : take s ([] ++ eol) = (0, { s with step := 3, q := { s.q with close := closes s.q.headers } }) := by
  obtain ⟨⟨v, k1, k2⟩, k3⟩ := k
  unfold take takeHeader endHead
  rw [if_neg (by omega), if_pos h1, bare_is (by simp)]
  simp only []
  rw [if_neg (by simp), if_pos trivial, if_neg (by rw [hh]; simp), k1, k3, if_neg (by simp), if_neg (by simp), if_neg (by simp), if_neg (by simp [k2])]
theorem runs_endA (hs : s.step = 3) (z : B) : ∃ s', Runs reader s (endA ++ z) endA.length 0 s' ∧ s'.q = s.q := by
  have a : take s ([48] ++ eol) = (0, { s with step := 7 }) := by
    have nz : number [48] hexs 16 8 = some (0, []) := by decide
    unfold take takeChunkLine
    rw [if_neg (by omega), if_neg (by omega), if_neg (by omega), if_pos hs, bare_is (by decide)]
    simp only []
    rw [if_neg (by simp), nz]
    simp
  have d : take { s with step := 7 } ([] ++ eol) = (0, { s with step := 8 }) := by
    unfold take takeTrailer
    simp only []
    rw [if_neg (by omega), if_neg (by omega), if_neg (by omega), if_neg (by omega), if_neg (by omega), if_neg (by omega), if_neg (by omega), bare_is (by simp)]
    rw [if_pos ⟨rfl, rfl⟩]
  have w : ∀ v : St, v.step = 7 ∨ v.step = 3 → wants v = none := fun v hv => by unfold wants; rw [if_neg (by omega), if_neg (by omega)]
  have r := runs_end (s := { s with step := 8 }) (l := z) rfl
  have r1 := runs_line (s := { s with step := 7 }) (a := []) (by show 7 ≠ 8; omega) (w _ (.inl rfl)) (by simp) (by simp) d r
  have r3 := runs_line (s := s) (a := [48]) (by omega) (w _ (.inr hs)) (by decide) (by decide) a r1
  exact ⟨_, r3, rfl⟩
theorem ext_nil : Ext [] := ⟨.inl rfl, by simp, by simp⟩
theorem runs_chunkA {b : B} (hs : s.step = 3) (hb : s.q.body = []) (hl : b.length ≤ 8192) (z : B) : ∃ s', Runs reader s ((chunkA b ++ endA) ++ z) (chunkA b ++ endA).length 0 s' ∧ s'.q = { s.q with body := b } := by
  unfold chunkA
  split
  · rename_i h0
    obtain ⟨s', r, hq⟩ := runs_endA (s := { s with size := b.length, step := 3, q := { s.q with body := s.q.body ++ b } }) rfl z
    have r2 := runs_chunk (s := s) (b := b) (x := []) hs ext_nil (by simp) h0 (by rw [hb]; simpa using hl) r
    refine ⟨s', ?_, by rw [hq, hb]; rfl⟩
    have e : (digs 16 b.length ++ eol ++ (b ++ eol) ++ endA) ++ z = (digs 16 b.length ++ []) ++ eol ++ (b ++ (eol ++ (endA ++ z))) := by simp only [List.append_assoc, List.append_nil]
    have el : (digs 16 b.length ++ eol ++ (b ++ eol) ++ endA).length = (digs 16 b.length ++ []).length + 2 + (b.length + (1 + (1 + endA.length))) := by
      simp only [List.length_append, List.append_nil]
      have : eol.length = 2 := rfl
      omega
    rw [e, el]
    exact r2
  · rename_i h0
    obtain rfl : b = [] := List.length_eq_zero_iff.1 (by omega)
    obtain ⟨s', r, hq⟩ := runs_endA (s := s) hs z
    exact ⟨s', r, by rw [hq, ← hb]⟩
/-- How great what is read may be. -/
theorem reads_fit {l : B} {n : Nat} {q : Rq} (h : Reads l q n 0) : (∀ h ∈ q.headers, h.1.length + h.2.length ≤ 4096) ∧ q.headers.length ≤ 32 ∧ q.body.length ≤ 8192 := by
  obtain ⟨t, s, r, a⟩ := h
  obtain ⟨_, rfl, _⟩ : (0 : Int) = 0 ∧ q = s.q ∧ n = t := by
    rcases a with a | a
    · exact a
    · exact absurd rfl a.1
  obtain ⟨ok, gd, _⟩ := runs_gd r ok0 gd0 rfl
  exact ⟨fun h hh => Nat.le_trans (gd.sz h hh) ok.head, ok.cnt, ok.body⟩
/-- A request that is read, written anew, is read as the same, and not a byte more is taken. -/
theorem again {l : B} {n : Nat} {q : Rq} (h : Reads l q n 0) (ht : q.target.length ≤ 900) (hm : q.method.length ≤ 80) (hl : ∀ h ∈ q.headers, h.1.length + h.2.length ≤ 1000) (hs : sizeA q.headers ≤ 4000) (z : B) : Reads (textA q ++ z) q (textA q).length 0 := by
  obtain ⟨t, s, r, a⟩ := h
  obtain ⟨_, rfl, _⟩ : (0 : Int) = 0 ∧ q = s.q ∧ n = t := by
    rcases a with a | a
    · exact a
    · exact absurd rfl a.1
  obtain ⟨ok, gd, s8⟩ := runs_gd r ok0 gd0 rfl
  obtain ⟨tm, tt⟩ := gd.first (by omega)
  obtain ⟨hh, hcl⟩ := gd.host (by omega)
  have cnt := ok.cnt
  have bl := ok.body
  have tb : ∀ c ∈ s.q.target, 33 ≤ c.toNat ∧ c.toNat ≤ 126 := by
    unfold isTarget at tt
    rw [Bool.and_eq_true, List.all_eq_true] at tt
    exact fun c hc => of_decide_eq_true (tt.1 c hc)
  have tno : ∀ x : UInt8, x.toNat < 33 → x ∉ s.q.target := fun x hx hc => by have := tb x hc; omega
  have lno : ∀ x : UInt8, x.toNat < 32 → tokB x = false → x ≠ 32 → x ∉ http11 → x ∉ lineA s.q := fun x hx h1 h2 h3 hc => by
    unfold lineA at hc
    rcases List.mem_append.1 hc with hc | hc
    · exact Reply.tok_no tm h1 hc
    rcases List.mem_cons.1 hc with hc | hc
    · exact h2 hc
    rcases List.mem_append.1 hc with hc | hc
    · exact tno x (by omega) hc
    rcases List.mem_cons.1 hc with hc | hc
    · exact h2 hc
    · exact h3 hc
  have ll : (lineA s.q).length ≤ 1024 := by
    unfold lineA
    rw [List.length_append, List.length_cons, List.length_append, List.length_cons]
    have : http11.length = 8 := rfl
    omega
  have f := first_is (s := s0) (m := s.q.method) (v := s.q.target) rfl tm tt (lno 13 (by decide) (by decide) (by decide) (by decide)) (Reply.tok_no tm (by decide)) (tno 32 (by decide))
  obtain ⟨s1, hs1⟩ : ∃ x, x = (⟨1, 0, sizeA s.q.headers, 0, ⟨s.q.method, s.q.target, s.q.headers, [], false⟩⟩ : St) := ⟨_, rfl⟩
  have e1 : s1.step = 1 := by rw [hs1]
  have e2 : s1.q.headers = s.q.headers := by rw [hs1]
  have e3 : s1.q.body = [] := by rw [hs1]
  have w1 : s1.step ≠ 8 := by omega
  have key : ∃ s', Runs reader s1 ([] ++ eol ++ (bodyA s.q ++ z)) (2 + (bodyA s.q).length) 0 s' ∧ s'.q = s.q := by
    have eq0 : ∀ b : B, b = s.q.body → ({ s1.q with close := closes s1.q.headers, body := b } : Rq) = s.q := fun b hb => by
      rw [e2, ← hcl, hb, hs1]
    have ch : isCh s.q.headers = !(values s.q.headers Reply.nTE).isEmpty := any_values _ _
    have l2 : ∀ k, ([] : B).length + 2 + k = 2 + k := fun k => by simp
    rcases gd.end_ s8 with ⟨k, kb⟩ | k | k
    · have c0 : bodyA s.q = [] := by unfold bodyA; rw [ch, k.1, kb]; rfl
      have a := end_none e1 (by rw [e2]; exact hh) (by rw [e2]; exact k)
      have r2 := runs_line (z := bodyA s.q ++ z) w1 (wants_line (by omega)) (by simp) (by simp) a (runs_end rfl)
      rw [c0] at r2 ⊢
      exact ⟨_, r2, by show ({ s1.q with close := closes s1.q.headers } : Rq) = s.q; rw [← eq0 [] kb.symm, hs1]⟩
    · have c0 : bodyA s.q = s.q.body := by unfold bodyA; rw [ch, k.1]; rfl
      have a := end_sized e1 (by rw [e2]; exact hh) (by rw [e2]; exact k)
      have r0 := runs_end (s := { s1 with size := s.q.body.length, step := 8, q := { s1.q with close := closes s1.q.headers, body := s1.q.body ++ s.q.body } }) (l := z) rfl
      have r1 := runs_bytes (s := { s1 with size := s.q.body.length, step := 2, q := { s1.q with close := closes s1.q.headers } }) (a := s.q.body) (by show 2 ≠ 8; omega) (by unfold wants; rw [if_pos (.inl rfl)]) (by unfold take takeBody; simp) r0
      have r2 := runs_line w1 (wants_line (by omega)) (by simp) (by simp) a r1
      rw [c0]
      rw [l2] at r2
      exact ⟨_, r2, eq0 _ (by rw [e3]; rfl)⟩
    · have c0 : bodyA s.q = chunkA s.q.body ++ endA := by
        obtain ⟨⟨v, k1, _⟩, _⟩ := k
        unfold bodyA; rw [ch, k1]; rfl
      have a := end_chunked e1 (by rw [e2]; exact hh) (by rw [e2]; exact k)
      obtain ⟨s', r1, hq⟩ := runs_chunkA (s := { s1 with step := 3, q := { s1.q with close := closes s1.q.headers } }) (b := s.q.body) rfl e3 bl z
      have r2 := runs_line w1 (wants_line (by omega)) (by simp) (by simp) a r1
      rw [c0]
      rw [l2] at r2
      exact ⟨s', r2, by rw [hq]; exact eq0 _ rfl⟩
  obtain ⟨s', rk, hq⟩ := key
  have rh := runs_hdrs s.q.headers { s0 with step := 1, q := { s0.q with method := s.q.method, target := s.q.target } } rfl gd.heads hl (by show 0 + _ ≤ 4096; omega) (by show 0 + _ ≤ 32; omega) (by
    have e : ({ s0 with step := 1, head := 0 + sizeA s.q.headers, q := { s0.q with method := s.q.method, target := s.q.target, headers := [] ++ s.q.headers } } : St) = s1 := by rw [hs1, Nat.zero_add]; rfl
    show Runs reader ({ s0 with step := 1, head := 0 + sizeA s.q.headers, q := { s0.q with method := s.q.method, target := s.q.target, headers := [] ++ s.q.headers } } : St) _ _ 0 s'
    rw [e]
    exact rk)
  have rf := runs_line (s := s0) (a := lineA s.q) (by decide) (by decide) (lno 10 (by decide) (by decide) (by decide) (by decide)) ll f rh
  have et : textA s.q ++ z = lineA s.q ++ eol ++ (hdrsA s.q.headers ++ ([] ++ eol ++ (bodyA s.q ++ z))) := by unfold textA; simp only [List.append_assoc]
  have el : (textA s.q).length = (lineA s.q).length + 2 + ((hdrsA s.q.headers).length + (2 + (bodyA s.q).length)) := by
    unfold textA
    simp only [List.length_append, List.length_nil]
    have : eol.length = 2 := rfl
    omega
  rw [← et] at rf
  exact ⟨_, s', rf, .inl ⟨rfl, hq.symm, el⟩⟩
end Wire
end Go.Proofs.YtplfceainkeokaaGreatDoor
