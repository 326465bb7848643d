/-
  wire: what holds of the reader's state between two steps (for the walk of its loop: its measure, and that nothing runs over). · wire: steps over texts that are known: a line, a line that is too long, so many bytes. · wire: numbers in digits, as the reader reads them; a body with its length, and in chunks. · wire: a body of any bytes comes as it is, with a length or in chunks, and ends just there (step 4), without a run. · wire: a body in chunks, without a run. · wire: just as long as may be is taken, one more is refused, without a run. · wire: the five texts of the limits, without a run.
-/
import Derived.Test.YtnodhbgkoedalaaGreatDoorWiB
namespace Go.Proofs.YtnodhbgkoedalaaGreatDoor
namespace Wire
open Go.Lib
open Reply (tokn val trim small)

structure Ok (s : St) : Prop where
  step : s.step ≤ 8
  body : s.q.body.length ≤ 8192
  fit : s.step = 2 ∨ s.step = 4 → s.q.body.length + s.size ≤ 8192
  pos : s.step = 4 → 0 < s.size
  none_ : s.step ≤ 1 → s.q.body.length = 0
  head : s.head ≤ 4096
  cnt : s.q.headers.length ≤ 32
  tr : s.trailers ≤ 32
theorem ok0 : Ok s0 := ⟨by decide, by decide, by decide, by decide, by decide, by decide, by decide, by decide⟩
variable {s s' : St} {p : B}
theorem Ok.first (h : Ok s) (h0 : s.step = 0) (hr : takeFirst s p = (0, s')) : Ok s' := by
  unfold takeFirst at hr
  simp only [] at hr
  split at hr
  · (simp only [Prod.mk.injEq] at hr; obtain ⟨he, hq⟩ := hr; subst hq; have h1 := (h).step; have h2 := (h).body; have h3 := (h).fit; have h4 := (h).pos; have h5 := (h).none_; have h6 := (h).head; have h7 := (h).cnt; have h8 := (h).tr; first | (exfalso; omega) | (exact absurd he (by assumption)) | (constructor <;> (try dsimp only) <;> (try rw [List.length_append]) <;> (try rw [List.length_cons]) <;> (try rw [List.length_nil]) <;> omega))
  split at hr
  · (simp only [Prod.mk.injEq] at hr; obtain ⟨he, hq⟩ := hr; subst hq; have h1 := (h).step; have h2 := (h).body; have h3 := (h).fit; have h4 := (h).pos; have h5 := (h).none_; have h6 := (h).head; have h7 := (h).cnt; have h8 := (h).tr; first | (exfalso; omega) | (exact absurd he (by assumption)) | (constructor <;> (try dsimp only) <;> (try rw [List.length_append]) <;> (try rw [List.length_cons]) <;> (try rw [List.length_nil]) <;> omega))
  split at hr
  · (simp only [Prod.mk.injEq] at hr; obtain ⟨he, hq⟩ := hr; subst hq; have h1 := (h).step; have h2 := (h).body; have h3 := (h).fit; have h4 := (h).pos; have h5 := (h).none_; have h6 := (h).head; have h7 := (h).cnt; have h8 := (h).tr; first | (exfalso; omega) | (exact absurd he (by assumption)) | (constructor <;> (try dsimp only) <;> (try rw [List.length_append]) <;> (try rw [List.length_cons]) <;> (try rw [List.length_nil]) <;> omega))
  split at hr
  · (simp only [Prod.mk.injEq] at hr; obtain ⟨he, hq⟩ := hr; subst hq; have h1 := (h).step; have h2 := (h).body; have h3 := (h).fit; have h4 := (h).pos; have h5 := (h).none_; have h6 := (h).head; have h7 := (h).cnt; have h8 := (h).tr; first | (exfalso; omega) | (exact absurd he (by assumption)) | (constructor <;> (try dsimp only) <;> (try rw [List.length_append]) <;> (try rw [List.length_cons]) <;> (try rw [List.length_nil]) <;> omega))
  · (simp only [Prod.mk.injEq] at hr; obtain ⟨he, hq⟩ := hr; subst hq; have h1 := (h).step; have h2 := (h).body; have h3 := (h).fit; have h4 := (h).pos; have h5 := (h).none_; have h6 := (h).head; have h7 := (h).cnt; have h8 := (h).tr; first | (exfalso; omega) | (exact absurd he (by assumption)) | (constructor <;> (try dsimp only) <;> (try rw [List.length_append]) <;> (try rw [List.length_cons]) <;> (try rw [List.length_nil]) <;> omega))
theorem Ok.length_ (h : Ok s) (h0 : s.q.body.length = 0) {ls : List B} (hr : expectLength s ls = (0, s')) : Ok s' := by
  unfold expectLength at hr
  repeat' split at hr
  all_goals (simp only [Prod.mk.injEq] at hr; obtain ⟨he, hq⟩ := hr; subst hq; have h1 := (h).step; have h2 := (h).body; have h3 := (h).fit; have h4 := (h).pos; have h5 := (h).none_; have h6 := (h).head; have h7 := (h).cnt; have h8 := (h).tr; first | (exfalso; omega) | (exact absurd he (by assumption)) | (constructor <;> (try dsimp only) <;> (try rw [List.length_append]) <;> (try rw [List.length_cons]) <;> (try rw [List.length_nil]) <;> omega))
theorem Ok.end_ (h : Ok s) (h0 : s.step = 1) (hr : endHead s = (0, s')) : Ok s' := by
  have b0 := h.none_ (by omega)
  have h1 : Ok { s with q := { s.q with close := closes s.q.headers } } := ⟨h.step, h.body, h.fit, h.pos, h.none_, h.head, h.cnt, h.tr⟩
  unfold endHead at hr
  simp only [] at hr
  split at hr
  · (simp only [Prod.mk.injEq] at hr; obtain ⟨he, hq⟩ := hr; subst hq; have h1 := (h).step; have h2 := (h).body; have h3 := (h).fit; have h4 := (h).pos; have h5 := (h).none_; have h6 := (h).head; have h7 := (h).cnt; have h8 := (h).tr; first | (exfalso; omega) | (exact absurd he (by assumption)) | (constructor <;> (try dsimp only) <;> (try rw [List.length_append]) <;> (try rw [List.length_cons]) <;> (try rw [List.length_nil]) <;> omega))
  split at hr
  · (simp only [Prod.mk.injEq] at hr; obtain ⟨he, hq⟩ := hr; subst hq; have h1 := (h).step; have h2 := (h).body; have h3 := (h).fit; have h4 := (h).pos; have h5 := (h).none_; have h6 := (h).head; have h7 := (h).cnt; have h8 := (h).tr; first | (exfalso; omega) | (exact absurd he (by assumption)) | (constructor <;> (try dsimp only) <;> (try rw [List.length_append]) <;> (try rw [List.length_cons]) <;> (try rw [List.length_nil]) <;> omega))
  split at hr
  · exact h1.length_ b0 hr
  split at hr
  · (simp only [Prod.mk.injEq] at hr; obtain ⟨he, hq⟩ := hr; subst hq; have h1 := (h).step; have h2 := (h).body; have h3 := (h).fit; have h4 := (h).pos; have h5 := (h).none_; have h6 := (h).head; have h7 := (h).cnt; have h8 := (h).tr; first | (exfalso; omega) | (exact absurd he (by assumption)) | (constructor <;> (try dsimp only) <;> (try rw [List.length_append]) <;> (try rw [List.length_cons]) <;> (try rw [List.length_nil]) <;> omega))
  split at hr
  · (simp only [Prod.mk.injEq] at hr; obtain ⟨he, hq⟩ := hr; subst hq; have h1 := (h).step; have h2 := (h).body; have h3 := (h).fit; have h4 := (h).pos; have h5 := (h).none_; have h6 := (h).head; have h7 := (h).cnt; have h8 := (h).tr; first | (exfalso; omega) | (exact absurd he (by assumption)) | (constructor <;> (try dsimp only) <;> (try rw [List.length_append]) <;> (try rw [List.length_cons]) <;> (try rw [List.length_nil]) <;> omega))
  · (simp only [Prod.mk.injEq] at hr; obtain ⟨he, hq⟩ := hr; subst hq; have h1 := (h).step; have h2 := (h).body; have h3 := (h).fit; have h4 := (h).pos; have h5 := (h).none_; have h6 := (h).head; have h7 := (h).cnt; have h8 := (h).tr; first | (exfalso; omega) | (exact absurd he (by assumption)) | (constructor <;> (try dsimp only) <;> (try rw [List.length_append]) <;> (try rw [List.length_cons]) <;> (try rw [List.length_nil]) <;> omega))
theorem Ok.header (h : Ok s) (h0 : s.step = 1) (hr : takeHeader s p = (0, s')) : Ok s' := by
  unfold takeHeader at hr
  simp only [] at hr
  split at hr
  · (simp only [Prod.mk.injEq] at hr; obtain ⟨he, hq⟩ := hr; subst hq; have h1 := (h).step; have h2 := (h).body; have h3 := (h).fit; have h4 := (h).pos; have h5 := (h).none_; have h6 := (h).head; have h7 := (h).cnt; have h8 := (h).tr; first | (exfalso; omega) | (exact absurd he (by assumption)) | (constructor <;> (try dsimp only) <;> (try rw [List.length_append]) <;> (try rw [List.length_cons]) <;> (try rw [List.length_nil]) <;> omega))
  split at hr
  · exact h.end_ h0 hr
  repeat' split at hr
  all_goals (simp only [Prod.mk.injEq] at hr; obtain ⟨he, hq⟩ := hr; subst hq; have h1 := (h).step; have h2 := (h).body; have h3 := (h).fit; have h4 := (h).pos; have h5 := (h).none_; have h6 := (h).head; have h7 := (h).cnt; have h8 := (h).tr; first | (exfalso; omega) | (exact absurd he (by assumption)) | (constructor <;> (try dsimp only) <;> (try rw [List.length_append]) <;> (try rw [List.length_cons]) <;> (try rw [List.length_nil]) <;> omega))
theorem Ok.chunkLine (h : Ok s) (h0 : s.step = 3) (hr : takeChunkLine s p = (0, s')) : Ok s' := by
  unfold takeChunkLine at hr
  repeat' split at hr
  all_goals (simp only [Prod.mk.injEq] at hr; obtain ⟨he, hq⟩ := hr; subst hq; have h1 := (h).step; have h2 := (h).body; have h3 := (h).fit; have h4 := (h).pos; have h5 := (h).none_; have h6 := (h).head; have h7 := (h).cnt; have h8 := (h).tr; first | (exfalso; omega) | (exact absurd he (by assumption)) | (constructor <;> (try dsimp only) <;> (try rw [List.length_append]) <;> (try rw [List.length_cons]) <;> (try rw [List.length_nil]) <;> omega))
theorem Ok.trailer (h : Ok s) (h0 : s.step = 7) (hr : takeTrailer s p = (0, s')) : Ok s' := by
  unfold takeTrailer at hr
  repeat' split at hr
  all_goals (simp only [Prod.mk.injEq] at hr; obtain ⟨he, hq⟩ := hr; subst hq; have h1 := (h).step; have h2 := (h).body; have h3 := (h).fit; have h4 := (h).pos; have h5 := (h).none_; have h6 := (h).head; have h7 := (h).cnt; have h8 := (h).tr; first | (exfalso; omega) | (exact absurd he (by assumption)) | (constructor <;> (try dsimp only) <;> (try rw [List.length_append]) <;> (try rw [List.length_cons]) <;> (try rw [List.length_nil]) <;> omega))
theorem Ok.take (h : Ok s) (hw : s.step ≠ 8) (hp : ∀ k, wants s = some k → p.length = k) (hr : take s p = (0, s')) : Ok s' := by
  unfold Wire.take at hr
  split at hr
  · rename_i e; exact h.first e hr
  split at hr
  · rename_i e; exact h.header e hr
  split at hr
  · rename_i e
    have hp := hp s.size (by unfold wants; rw [if_pos (.inl e)])
    unfold takeBody at hr
    (simp only [Prod.mk.injEq] at hr; obtain ⟨he, hq⟩ := hr; subst hq; have h1 := (h).step; have h2 := (h).body; have h3 := (h).fit; have h4 := (h).pos; have h5 := (h).none_; have h6 := (h).head; have h7 := (h).cnt; have h8 := (h).tr; first | (exfalso; omega) | (exact absurd he (by assumption)) | (constructor <;> (try dsimp only) <;> (try rw [List.length_append]) <;> (try rw [List.length_cons]) <;> (try rw [List.length_nil]) <;> omega))
  split at hr
  · rename_i e; exact h.chunkLine e hr
  split at hr
  · rename_i e
    have hp := hp s.size (by unfold wants; rw [if_pos (.inr e)])
    unfold takeBody at hr
    (simp only [Prod.mk.injEq] at hr; obtain ⟨he, hq⟩ := hr; subst hq; have h1 := (h).step; have h2 := (h).body; have h3 := (h).fit; have h4 := (h).pos; have h5 := (h).none_; have h6 := (h).head; have h7 := (h).cnt; have h8 := (h).tr; first | (exfalso; omega) | (exact absurd he (by assumption)) | (constructor <;> (try dsimp only) <;> (try rw [List.length_append]) <;> (try rw [List.length_cons]) <;> (try rw [List.length_nil]) <;> omega))
  split at hr
  · unfold expect at hr
    split at hr
    · (simp only [Prod.mk.injEq] at hr; obtain ⟨he, hq⟩ := hr; subst hq; have h1 := (h).step; have h2 := (h).body; have h3 := (h).fit; have h4 := (h).pos; have h5 := (h).none_; have h6 := (h).head; have h7 := (h).cnt; have h8 := (h).tr; first | (exfalso; omega) | (exact absurd he (by assumption)) | (constructor <;> (try dsimp only) <;> (try rw [List.length_append]) <;> (try rw [List.length_cons]) <;> (try rw [List.length_nil]) <;> omega))
    · (simp only [Prod.mk.injEq] at hr; obtain ⟨he, hq⟩ := hr; subst hq; have h1 := (h).step; have h2 := (h).body; have h3 := (h).fit; have h4 := (h).pos; have h5 := (h).none_; have h6 := (h).head; have h7 := (h).cnt; have h8 := (h).tr; first | (exfalso; omega) | (exact absurd he (by assumption)) | (constructor <;> (try dsimp only) <;> (try rw [List.length_append]) <;> (try rw [List.length_cons]) <;> (try rw [List.length_nil]) <;> omega))
  split at hr
  · unfold expect at hr
    split at hr
    · (simp only [Prod.mk.injEq] at hr; obtain ⟨he, hq⟩ := hr; subst hq; have h1 := (h).step; have h2 := (h).body; have h3 := (h).fit; have h4 := (h).pos; have h5 := (h).none_; have h6 := (h).head; have h7 := (h).cnt; have h8 := (h).tr; first | (exfalso; omega) | (exact absurd he (by assumption)) | (constructor <;> (try dsimp only) <;> (try rw [List.length_append]) <;> (try rw [List.length_cons]) <;> (try rw [List.length_nil]) <;> omega))
    · (simp only [Prod.mk.injEq] at hr; obtain ⟨he, hq⟩ := hr; subst hq; have h1 := (h).step; have h2 := (h).body; have h3 := (h).fit; have h4 := (h).pos; have h5 := (h).none_; have h6 := (h).head; have h7 := (h).cnt; have h8 := (h).tr; first | (exfalso; omega) | (exact absurd he (by assumption)) | (constructor <;> (try dsimp only) <;> (try rw [List.length_append]) <;> (try rw [List.length_cons]) <;> (try rw [List.length_nil]) <;> omega))
  · exact h.trailer (by have := h.step; omega) hr
/-- How long the loop may yet go on. -/
def left (s : St) (l : B) : Nat := 2 * l.length + (if s.step = 8 then 0 else 1)
theorem left_less {l : B} (h : Ok s) (hw : s.step ≠ 8) (hk : size l (wants s) ≤ l.length) (hr : Wire.take s (l.take (size l (wants s))) = (0, s')) : left s' (l.drop (size l (wants s))) < left s l := by
  unfold left
  rw [if_neg hw, List.length_drop]
  by_cases z : size l (wants s) = 0
  · have e : s.step = 2 := by
      unfold wants at z
      split at z
      · rename_i e
        rcases e with e | e
        · exact e
        · have := h.pos e
          exact absurd z (by show s.size ≠ 0; omega)
      · split at z
        · cases z
        · exact absurd z (by have := lineSize_pos l; show lineSize l ≠ 0; omega)
    have e8 : s'.step = 8 := by
      unfold Wire.take takeBody at hr
      rw [if_neg (by omega), if_neg (by omega), if_pos e] at hr
      simp only [Prod.mk.injEq, true_and] at hr
      rw [← hr]
    rw [if_pos e8, z]
    omega
  · split <;> omega
end Wire
end Go.Proofs.YtnodhbgkoedalaaGreatDoor

namespace Go.Proofs.YtnodhbgkoedalaaGreatDoor
namespace Wire
open Go.Lib
open Reply (tokn val trim small)

/-- The end of a line. -/
def eol : B := [13, 10]
theorem find_lf (a z : B) (h : 10 ∉ a) : (a ++ 10 :: z).findIdx? (· == 10) = some a.length := by
  rw [List.findIdx?_append]
  have e : a.findIdx? (· == 10) = none := by
    rw [List.findIdx?_eq_none_iff]
    intro x hx
    simp only [beq_eq_false_iff_ne]
    exact fun e => h (e ▸ hx)
  rw [e]
  simp [List.findIdx?_cons]
theorem lineSize_is {a z : B} (h : 10 ∉ a) (hl : a.length ≤ 1024) : lineSize (a ++ eol ++ z) = a.length + 2 := by
  have e : (a ++ eol ++ z).take 1026 = (a ++ [13]) ++ 10 :: (z.take (1024 - a.length)) := by
    unfold eol
    rw [List.append_assoc, List.take_append, List.take_of_length_le (by omega), List.append_assoc]
    congr 1
    show ([13, 10] ++ z).take (1026 - a.length) = [13] ++ 10 :: z.take (1024 - a.length)
    rw [List.take_append, List.take_of_length_le (by simp; omega)]
    simp
    congr 1
    omega
  unfold lineSize
  rw [e, find_lf _ _ (by simp; exact h)]
  simp
theorem bare_is {a : B} (h : 13 ∉ a) (t : Int) : bare (a ++ eol) t = (a, 0) := by
  have s1 : hasSuffix (a ++ eol) [10] = true := by
    unfold hasSuffix
    rw [List.isSuffixOf_iff_suffix]
    exact ⟨a ++ [13], by unfold eol; simp⟩
  have e1 : trimSuffix (a ++ eol) [10] = a ++ [13] := by
    unfold trimSuffix
    rw [if_pos s1]
    have : (a ++ eol) = (a ++ [13]) ++ [10] := by unfold eol; simp
    rw [this]
    rw [List.take_append_of_le_length (by simp)]
    exact List.take_of_length_le (by simp)
  have s2 : hasSuffix (a ++ [13]) [13] = true := by
    unfold hasSuffix
    rw [List.isSuffixOf_iff_suffix]
    exact ⟨a, rfl⟩
  have e2 : trimSuffix (a ++ [13]) [13] = a := by
    unfold trimSuffix
    rw [if_pos s2, List.take_append_of_le_length (by simp)]
    exact List.take_of_length_le (by simp)
  have c : a.contains 13 = false := by
    rw [Bool.eq_false_iff]
    intro hc
    exact h (List.contains_iff_mem.1 hc)
  unfold bare
  rw [if_pos s1, e1, s2, e2, c]
  rfl
/-- A line that is too long: its piece is the first 1026 bytes, which have no end. -/
theorem lineSize_long {l : B} (h : 10 ∉ l.take 1026) : lineSize l = 1026 := by
  unfold lineSize
  have e : (l.take 1026).findIdx? (· == 10) = none := by
    rw [List.findIdx?_eq_none_iff]
    intro x hx
    simp only [beq_eq_false_iff_ne]
    exact fun e => h (e ▸ hx)
  rw [e]
theorem bare_long {p : B} (h : 10 ∉ p) (t : Int) : bare p t = ([], t) := by
  have s1 : hasSuffix p [10] = false := by
    rw [Bool.eq_false_iff]
    intro hc
    unfold hasSuffix at hc
    rw [List.isSuffixOf_iff_suffix] at hc
    exact h (hc.subset (by simp))
  unfold bare
  rw [s1]
  rfl
variable {s s1 s' : St} {l a z : B} {t : Nat} {c : Int}
/-- A line is taken. -/
theorem runs_line (hw : s.step ≠ 8) (hn : wants s = none) (h10 : 10 ∉ a) (ha : a.length ≤ 1024) (hr : take s (a ++ eol) = (0, s1)) (h : Runs reader s1 z t c s') : Runs reader s (a ++ eol ++ z) (a.length + 2 + t) c s' := by
  have k : size (a ++ eol ++ z) (reader.wants s) = a.length + 2 := by
    show size _ (wants s) = _
    rw [hn]
    exact lineSize_is h10 ha
  have el : (a ++ eol).length = a.length + 2 := by rw [List.length_append]; rfl
  have tk : (a ++ eol ++ z).take (a.length + 2) = a ++ eol := by rw [← el, List.take_left]
  have dr : (a ++ eol ++ z).drop (a.length + 2) = z := by rw [← el, List.drop_left]
  have r := Runs.step (M := reader) (s := s) (s1 := s1) (s' := s') (l := a ++ eol ++ z) (t := t) (c := c) (by show decide _ = false; rw [decide_eq_false_iff_not]; exact hw) (by rw [k, List.length_append, el]; omega) (by rw [k, tk]; exact hr) (by rw [k, dr]; exact h)
  rw [k] at r
  exact r
/-- A line is refused. -/
theorem runs_line_stop (hw : s.step ≠ 8) (hn : wants s = none) (h10 : 10 ∉ a) (ha : a.length ≤ 1024) (hc : c ≠ 0) (hr : take s (a ++ eol) = (c, s1)) : Runs reader s (a ++ eol ++ z) (a.length + 2) c s1 := by
  have k : size (a ++ eol ++ z) (reader.wants s) = a.length + 2 := by
    show size _ (wants s) = _
    rw [hn]
    exact lineSize_is h10 ha
  have el : (a ++ eol).length = a.length + 2 := by rw [List.length_append]; rfl
  have tk : (a ++ eol ++ z).take (a.length + 2) = a ++ eol := by rw [← el, List.take_left]
  have r := Runs.stop (M := reader) (s := s) (s' := s1) (l := a ++ eol ++ z) (c := c) (by show decide _ = false; rw [decide_eq_false_iff_not]; exact hw) (by rw [k, List.length_append, el]; omega) (by rw [k, tk]; exact hr) hc
  rw [k] at r
  exact r
/-- So many bytes are taken. -/
theorem runs_bytes (hw : s.step ≠ 8) (hn : wants s = some a.length) (hr : take s a = (0, s1)) (h : Runs reader s1 z t c s') : Runs reader s (a ++ z) (a.length + t) c s' := by
  have k : size (a ++ z) (reader.wants s) = a.length := by
    show size _ (wants s) = _
    rw [hn]
    rfl
  have r := Runs.step (M := reader) (s := s) (s1 := s1) (s' := s') (l := a ++ z) (t := t) (c := c) (by show decide _ = false; rw [decide_eq_false_iff_not]; exact hw) (by rw [k, List.length_append]; omega) (by rw [k, List.take_left]; exact hr) (by rw [k, List.drop_left]; exact h)
  rw [k] at r
  exact r
theorem runs_end {s : St} {l : B} (h : s.step = 8) : Runs reader s l 0 0 s := .whole (by show decide _ = true; rw [decide_eq_true_eq]; exact h)
/-! ### the steps over lines that are known -/
theorem cut_at (x : UInt8) (a z : B) (h : x ∉ a) : cut (a ++ x :: z) [x] = (a, z, true) := by
  have := Reply.cut_app x [] a z h
  simpa using this
theorem cut_none (x : UInt8) (a : B) (h : x ∉ a) : (cut a [x]).2.2 = false := by
  rw [Bool.eq_false_iff]
  intro hc
  have := Reply.cut_back hc
  exact h (by rw [this]; simp)
/-- A header's line. -/
theorem header_is {n v : B} (hs : s.step = 1) (hn : tokn n = true) (hv : val v = true) (h13 : 13 ∉ n ++ 58 :: v) (h58 : 58 ∉ n) (hh : s.head + (n.length + v.length + 3) ≤ 4096) (hk : s.q.headers.length ≠ 32) :
    take s ((n ++ 58 :: v) ++ eol) = (0, { s with head := s.head + (n.length + v.length + 3), q := { s.q with headers := s.q.headers ++ [(small n, trim v)] } }) := by
  have el : ((n ++ 58 :: v) ++ eol).length = n.length + v.length + 3 := by simp [eol]; omega
  unfold take takeHeader
  rw [if_neg (by omega), if_pos hs, bare_is h13]
  simp only []
  rw [if_neg (by simp), if_neg (by simp), el, if_neg (by omega), cut_at 58 n v h58]
  simp only [hn, hv]
  rfl
/-- The request line. -/
theorem first_is {m v : B} (hs : s.step = 0) (hm : tokn m = true) (hv : isTarget v = true) (h13 : 13 ∉ m ++ 32 :: (v ++ 32 :: http11)) (hm32 : 32 ∉ m) (hv32 : 32 ∉ v) :
    take s ((m ++ 32 :: (v ++ 32 :: http11)) ++ eol) = (0, { s with step := 1, q := { s.q with method := m, target := v } }) := by
  unfold take takeFirst
  rw [if_pos hs, bare_is h13]
  simp only []
  have ver : isVersion http11 = true := by decide
  rw [if_neg (by simp), if_neg (by simp), cut_at 32 m _ hm32]
  simp only []
  rw [cut_at 32 v _ hv32]
  simp only [hm, hv, ver]
  rfl
end Wire
end Go.Proofs.YtnodhbgkoedalaaGreatDoor

namespace Go.Proofs.YtnodhbgkoedalaaGreatDoor
namespace Wire
open Go.Lib
open Reply (tokn val trim small)

def hexD (d : Nat) : UInt8 := ([48, 49, 50, 51, 52, 53, 54, 55, 56, 57, 97, 98, 99, 100, 101, 102] : B).getD d 0
/-- A number in digits of a base. -/
def digs (base n : Nat) : B := if _h : n < base ∨ base < 2 then [hexD (n % base)] else digs base (n / base) ++ [hexD (n % base)]
termination_by n
decreasing_by exact Nat.div_lt_self (by omega) (by omega)
theorem hexV_hexD : ∀ d, d < 16 → hexV (hexD d) = d := by decide
theorem hexD_dec : ∀ d, d < 10 → decs.contains (hexD d) = true := by decide
theorem hexD_hex : ∀ d, d < 16 → hexs.contains (hexD d) = true := by decide
theorem numOf_snoc (base : Nat) (l : B) (c : UInt8) : numOf base (l ++ [c]) = numOf base l * base + hexV c := by unfold numOf; simp
theorem numOf_digs {base : Nat} (h2 : 2 ≤ base) (h16 : base ≤ 16) (n : Nat) : numOf base (digs base n) = n := by
  induction n using Nat.strongRecOn with
  | ind n ih =>
    have hm : n % base < base := Nat.mod_lt _ (by omega)
    have hv := hexV_hexD (n % base) (by omega)
    unfold digs
    split
    · rename_i h
      show 0 * base + hexV (hexD (n % base)) = n
      rw [hv, Nat.mod_eq_of_lt (by omega)]
      omega
    · rename_i h
      rw [numOf_snoc, ih _ (Nat.div_lt_self (by omega) (by omega)), hv]
      have := Nat.div_add_mod n base
      rw [Nat.mul_comm] at this
      exact this
theorem digs_mem {base : Nat} (h2 : 2 ≤ base) {P : UInt8 → Prop} (hP : ∀ d, d < base → P (hexD d)) (n : Nat) : ∀ c ∈ digs base n, P c := by
  induction n using Nat.strongRecOn with
  | ind n ih =>
    have hm : n % base < base := Nat.mod_lt _ (by omega)
    unfold digs
    split
    · intro c hc
      rw [List.mem_singleton] at hc
      rw [hc]
      exact hP _ hm
    · intro c hc
      rcases List.mem_append.1 hc with hc | hc
      · exact ih _ (Nat.div_lt_self (by omega) (by omega)) c hc
      · rw [List.mem_singleton] at hc
        rw [hc]
        exact hP _ hm
theorem digs_pos (base n : Nat) : 0 < (digs base n).length := by
  unfold digs
  split <;> simp
theorem digs_len {base : Nat} (h2 : 2 ≤ base) : ∀ (k n : Nat), n < base ^ (k + 1) → (digs base n).length ≤ k + 1
  | 0, n, h => by
    unfold digs
    rw [dif_pos (.inl (by simpa using h))]
    simp
  | k + 1, n, h => by
    unfold digs
    split
    · simp
    · have i := digs_len h2 k (n / base) (by rw [Nat.div_lt_iff_lt_mul (by omega)]; rw [← Nat.pow_succ]; exact h)
      rw [List.length_append]
      simp
      omega
theorem number_is {ds rest digits : B} {base most : Nat} (hd : ∀ c ∈ ds, digits.contains c = true) (hr : ∀ c, rest.head? = some c → digits.contains c = false) (h0 : 0 < ds.length) (hm : ds.length ≤ most) : number (ds ++ rest) digits base most = some (numOf base ds, rest) := by
  have e : trimLeftS (ds ++ rest) digits = rest := by
    unfold trimLeftS
    clear h0 hm
    induction ds with
    | nil =>
      cases rest with
      | nil => rfl
      | cons c r =>
        rw [List.nil_append, List.dropWhile_cons, hr c rfl]
        rfl
    | cons c ds ih =>
      rw [List.cons_append, List.dropWhile_cons, hd c (by simp), if_pos rfl]
      exact ih (fun x hx => hd x (List.mem_cons_of_mem _ hx))
  unfold number
  simp only []
  rw [e, List.length_append, Nat.add_sub_cancel, if_neg (by omega), List.take_left]
theorem number_dec {n most : Nat} {rest : B} (hn : n < 10 ^ most) (hm : 0 < most) (hr : ∀ c, rest.head? = some c → decs.contains c = false) : number (digs 10 n ++ rest) decs 10 most = some (n, rest) := by
  obtain ⟨k, rfl⟩ : ∃ k, most = k + 1 := ⟨most - 1, by omega⟩
  rw [number_is (digs_mem (by omega) hexD_dec n) hr (digs_pos _ _) (digs_len (by omega) k n hn), numOf_digs (by omega) (by omega)]
theorem number_hex {n most : Nat} {rest : B} (hn : n < 16 ^ most) (hm : 0 < most) (hr : ∀ c, rest.head? = some c → hexs.contains c = false) : number (digs 16 n ++ rest) hexs 16 most = some (n, rest) := by
  obtain ⟨k, rfl⟩ : ∃ k, most = k + 1 := ⟨most - 1, by omega⟩
  rw [number_is (digs_mem (by omega) hexD_hex n) hr (digs_pos _ _) (digs_len (by omega) k n hn), numOf_digs (by omega) (by omega)]
/-- The law's words for a number are these digits: one step. -/
theorem digs_one {base n : Nat} (h : n < base) : digs base n = [hexD n] := by
  unfold digs
  rw [dif_pos (.inl h), Nat.mod_eq_of_lt h]
theorem digs_more {base n : Nat} (h2 : 2 ≤ base) (h : base ≤ n) : digs base n = digs base (n / base) ++ [hexD (n % base)] := by
  conv => lhs; unfold digs
  rw [dif_neg (by omega)]
/-! ### chunks -/
/-- A chunk's line, behind its number. -/
def Ext (x : B) : Prop := (x = [] ∨ ∃ c r, x = c :: r ∧ ([32, 9, 59] : B).contains c = true) ∧ 10 ∉ x ∧ 13 ∉ x
theorem Ext.not_hex {x : B} (h : Ext x) : ∀ c, x.head? = some c → hexs.contains c = false := by
  intro c hc
  rcases h.1 with rfl | ⟨d, r, rfl, hd⟩
  · cases hc
  · have : d = c := by simpa using hc
    subst this
    have : ∀ d : UInt8, ([32, 9, 59] : B).contains d = true → hexs.contains d = false := by
      intro d hd
      rw [List.contains_iff_mem] at hd
      simp only [List.mem_cons, List.mem_nil_iff, or_false] at hd
      rcases hd with rfl | rfl | rfl <;> decide
    exact this d hd
theorem digs_no {base : Nat} (h2 : 2 ≤ base) (h16 : base ≤ 16) (n : Nat) (x : UInt8) (hx : ∀ d, d < 16 → hexD d ≠ x) : x ∉ digs base n := fun h =>
  digs_mem h2 (P := fun c => c ≠ x) (fun d hd => hx d (by omega)) n x h rfl
variable {s s' : St} {z : B} {t : Nat} {c : Int}
theorem chunkLine_is {n : Nat} {x : B} (hs : s.step = 3) (hx : Ext x) (h0 : 0 < n) (hn : s.q.body.length + n ≤ 8192) :
    take s ((digs 16 n ++ x) ++ eol) = (0, { s with size := n, step := 4 }) := by
  have h13 : 13 ∉ digs 16 n ++ x := fun h => by
    rcases List.mem_append.1 h with h | h
    · exact digs_no (by omega) (by omega) n 13 (by decide) h
    · exact hx.2.2 h
  unfold take takeChunkLine
  rw [if_neg (by omega), if_neg (by omega), if_neg (by omega), if_pos hs, bare_is h13]
  simp only []
  rw [if_neg (by simp), number_hex (most := 8) (by omega) (by omega) hx.not_hex]
  simp only []
  rw [if_neg ?_, if_neg (by omega), if_neg (by omega)]
  rintro ⟨a, b⟩
  rcases hx.1 with rfl | ⟨d, r, rfl, hd⟩
  · exact a rfl
  · exact b hd
/-- A chunk of one or more bytes is taken. -/
theorem runs_chunk {b x : B} (hs : s.step = 3) (hx : Ext x) (hxl : x.length ≤ 1000) (h0 : 0 < b.length) (hn : s.q.body.length + b.length ≤ 8192)
    (h : Runs reader { s with size := b.length, step := 3, q := { s.q with body := s.q.body ++ b } } z t c s') :
    Runs reader s ((digs 16 b.length ++ x) ++ eol ++ (b ++ (eol ++ z))) ((digs 16 b.length ++ x).length + 2 + (b.length + (1 + (1 + t)))) c s' := by
  have h10 : 10 ∉ digs 16 b.length ++ x := fun h => by
    rcases List.mem_append.1 h with h | h
    · exact digs_no (by omega) (by omega) _ 10 (by decide) h
    · exact hx.2.1 h
  have hl : (digs 16 b.length ++ x).length ≤ 1024 := by
    have := digs_len (base := 16) (by omega) 7 b.length (by omega)
    rw [List.length_append]
    omega
  refine runs_line (s1 := { s with size := b.length, step := 4 }) (by omega) (by unfold wants; rw [if_neg (by omega), if_neg (by omega)]) h10 hl (chunkLine_is hs hx h0 hn) ?_
  refine runs_bytes (s1 := { s with size := b.length, step := 5, q := { s.q with body := s.q.body ++ b } }) (by show 4 ≠ 8; omega) (by unfold wants; rw [if_pos (.inr rfl)]) (by unfold take takeBody; simp) ?_
  have e : eol ++ z = [13] ++ ([10] ++ z) := rfl
  rw [e]
  refine runs_bytes (s1 := { s with size := b.length, step := 6, q := { s.q with body := s.q.body ++ b } }) (a := [13]) (by show 5 ≠ 8; omega) (by unfold wants; rw [if_neg (by simp), if_pos (.inl rfl)]; rfl) (by unfold take expect; simp) ?_
  exact runs_bytes (s1 := { s with size := b.length, step := 3, q := { s.q with body := s.q.body ++ b } }) (a := [10]) (by show 6 ≠ 8; omega) (by unfold wants; rw [if_neg (by simp), if_pos (.inr rfl)]; rfl) (by unfold take expect; simp) h
end Wire
end Go.Proofs.YtnodhbgkoedalaaGreatDoor

namespace Go.Proofs.YtnodhbgkoedalaaGreatDoor
namespace Wire
open Go.Lib
open Reply (tokn val trim small)

theorem dw_len (P : UInt8 → Bool) : ∀ l : B, (l.dropWhile P).length ≤ l.length
  | [] => Nat.le_refl _
  | c :: r => by
    rw [List.dropWhile_cons]
    split
    · have := dw_len P r
      simp
      omega
    · exact Nat.le_refl _
theorem dw_same (P : UInt8 → Bool) {l : B} (h : l.length ≤ (l.dropWhile P).length) : l.dropWhile P = l := by
  cases l with
  | nil => rfl
  | cons c r =>
    rw [List.dropWhile_cons] at h ⊢
    split
    · rename_i hp
      rw [if_pos hp] at h
      have := dw_len P r
      simp at h
      omega
    · rfl
theorem dw_app (P : UInt8 → Bool) {l : B} (x : B) (h : l.dropWhile P = l) (h0 : l ≠ []) : (l ++ x).dropWhile P = l ++ x := by
  cases l with
  | nil => exact absurd rfl h0
  | cons c r =>
    rw [List.cons_append, List.dropWhile_cons]
    rw [List.dropWhile_cons] at h
    split
    · rename_i hp
      rw [if_pos hp] at h
      have a := dw_len P r
      rw [h, List.length_cons] at a
      omega
    · rfl
theorem dw_all (P : UInt8 → Bool) : ∀ {w : B} (l : B), (∀ c ∈ w, P c = true) → (w ++ l).dropWhile P = l.dropWhile P
  | [], _, _ => rfl
  | c :: w, l, h => by
    rw [List.cons_append, List.dropWhile_cons, if_pos (h c (by simp))]
    exact dw_all P l (fun x hx => h x (List.mem_cons_of_mem _ hx))
/-- White ahead of a text that has none at its ends. -/
theorem trim_white {w l : B} (hw : ∀ c ∈ w, ([32, 9] : B).contains c = true) (hl : trim l = l) : trim (w ++ l) = l := by
  unfold trim trimS at hl ⊢
  have a1 : (trimLeftS (trimRightS l [32, 9]) [32, 9]).length ≤ (trimRightS l [32, 9]).length := dw_len _ _
  have a2 : (trimRightS l [32, 9]).length ≤ l.length := by
    unfold trimRightS
    rw [List.length_reverse]
    have := dw_len (([32, 9] : B).contains ·) l.reverse
    rw [List.length_reverse] at this
    exact this
  rw [hl] at a1
  have r1 : l.reverse.dropWhile (([32, 9] : B).contains ·) = l.reverse := dw_same _ (by
    unfold trimRightS at a1
    rw [List.length_reverse] at a1
    rw [List.length_reverse]
    exact a1)
  have r2 : trimRightS l [32, 9] = l := by unfold trimRightS; rw [r1, List.reverse_reverse]
  rw [r2] at hl
  by_cases e : l = []
  · subst e
    rw [List.append_nil]
    have : trimRightS w [32, 9] = [] := by
      unfold trimRightS
      have := dw_all (([32, 9] : B).contains ·) (w := w.reverse) [] (fun c hc => hw c (List.mem_reverse.1 hc))
      rw [List.append_nil] at this
      rw [this]
      rfl
    rw [this]
    rfl
  · have : trimRightS (w ++ l) [32, 9] = w ++ l := by
      unfold trimRightS
      rw [List.reverse_append, dw_app _ _ r1 (by simpa using e), List.reverse_append, List.reverse_reverse, List.reverse_reverse]
    rw [this]
    unfold trimLeftS at hl ⊢
    rw [dw_all _ l hw]
    exact hl
theorem trim_solid {l : B} (h : ∀ c ∈ l, ([32, 9] : B).contains c = false) : trim l = l := by
  have key : ∀ m : B, (∀ c ∈ m, ([32, 9] : B).contains c = false) → m.dropWhile (([32, 9] : B).contains ·) = m := fun m hm => by
    cases m with
    | nil => rfl
    | cons c r => rw [List.dropWhile_cons, hm c (by simp)]; rfl
  unfold trim trimS trimLeftS trimRightS
  rw [key l.reverse (fun c hc => h c (List.mem_reverse.1 hc)), List.reverse_reverse, key l h]
/-- What the law writes ahead of a body. -/
def put : B := [80, 85, 84]
def slashX : B := [47, 120]
def hostH : B := nHost ++ 58 :: [32, 104]
def nLen : B := [67, 111, 110, 116, 101, 110, 116, 45, 76, 101, 110, 103, 116, 104]
def nTra : B := [84, 114, 97, 110, 115, 102, 101, 114, 45, 69, 110, 99, 111, 100, 105, 110, 103]
def vChu : B := [32, 67, 104, 117, 110, 107, 101, 100]
def firstL : B := put ++ 32 :: (slashX ++ 32 :: http11)
def headL (z : B) : B := firstL ++ eol ++ (hostH ++ eol ++ z)
variable {s s' : St} {z : B} {t : Nat} {c : Int}
def s2 : St := ⟨1, 0, 9, 0, ⟨put, slashX, [(nHost, [104])], [], false⟩⟩
theorem runs_head (h : Runs reader s2 z t c s') : Runs reader s0 (headL z) (17 + (9 + t)) c s' := by
  have a := first_is (s := s0) (m := put) (v := slashX) rfl (by decide) (by decide) (by decide) (by decide) (by decide)
  have b := header_is (s := { s0 with step := 1, q := { s0.q with method := put, target := slashX } }) (n := nHost) (v := [32, 104]) rfl (by decide) (by decide) (by decide) (by decide) (by decide) (by decide)
  have e : (small nHost, trim [32, 104]) = (nHost, ([104] : B)) := by decide
  rw [e] at b
  have r2 := runs_line (s := { s0 with step := 1, q := { s0.q with method := put, target := slashX } }) (a := hostH) (by decide) (by decide) (by decide) (by decide) b (z := z) (t := t) (c := c) (s' := s') h
  exact runs_line (s := s0) (a := firstL) (by decide) (by decide) (by decide) (by decide) a r2
theorem digs_solid (n : Nat) : ∀ c ∈ digs 10 n, ([32, 9] : B).contains c = false := digs_mem (by omega) (by decide) n
theorem digs_val (n : Nat) : val (32 :: digs 10 n) = true := by
  unfold val
  rw [List.all_eq_true]
  intro c hc
  rcases List.mem_cons.1 hc with rfl | hc
  · decide
  · exact digs_mem (by omega) (P := fun c => Reply.valB c = true) (by decide) n c hc
/-- A body with its length. -/
theorem runs_sized {b : B} (hb : b.length ≤ 8192) (z : B) : ∃ t s', Runs reader s0 (headL ((nLen ++ 58 :: (32 :: digs 10 b.length)) ++ eol ++ ([] ++ eol ++ (b ++ z)))) t 0 s' ∧ s'.q.body = b ∧ s'.q.method = put := by
  have dl : (digs 10 b.length).length ≤ 4 := digs_len (by omega) 3 _ (by omega)
  have n13 : 13 ∉ nLen ++ 58 :: (32 :: digs 10 b.length) := fun h => by
    rcases List.mem_append.1 h with h | h
    · exact absurd h (by decide)
    · rcases List.mem_cons.1 h with h | h
      · cases h
      · rcases List.mem_cons.1 h with h | h
        · cases h
        · exact digs_no (by omega) (by omega) _ 13 (by decide) h
  have n10 : 10 ∉ nLen ++ 58 :: (32 :: digs 10 b.length) := fun h => by
    rcases List.mem_append.1 h with h | h
    · exact absurd h (by decide)
    · rcases List.mem_cons.1 h with h | h
      · cases h
      · rcases List.mem_cons.1 h with h | h
        · cases h
        · exact digs_no (by omega) (by omega) _ 10 (by decide) h
  have a := header_is (s := s2) (n := nLen) (v := 32 :: digs 10 b.length) rfl (by decide) (digs_val _) n13 (by decide) (by show 9 + (14 + _ + 3) ≤ 4096; rw [List.length_cons]; omega) (by decide)
  have e : (small nLen, trim (32 :: digs 10 b.length)) = (Reply.nCL, digs 10 b.length) := by
    rw [show small nLen = Reply.nCL from by decide, show (32 : UInt8) :: digs 10 b.length = [32] ++ digs 10 b.length from rfl, trim_white (by decide) (trim_solid (digs_solid _))]
  rw [e] at a
  obtain ⟨s3, hs3⟩ : ∃ x, x = ({ s2 with head := s2.head + (nLen.length + (32 :: digs 10 b.length).length + 3), q := { s2.q with headers := s2.q.headers ++ [(Reply.nCL, digs 10 b.length)] } } : St) := ⟨_, rfl⟩
  rw [← hs3] at a
  have hq : s3.q.headers = [(nHost, [104]), (Reply.nCL, digs 10 b.length)] := by rw [hs3]; rfl
  have st : s3.step = 1 := by rw [hs3]; rfl
  have bd : s3.q.body = [] := by rw [hs3]; rfl
  have mt : s3.q.method = put := by rw [hs3]; rfl
  have vH : values s3.q.headers nHost = [[104]] := by rw [hq]; rfl
  have vT : values s3.q.headers Reply.nTE = [] := by rw [hq]; rfl
  have vL : values s3.q.headers Reply.nCL = [digs 10 b.length] := by rw [hq]; rfl
  have en : take s3 ([] ++ eol) = (0, { s3 with size := b.length, step := 2, q := { s3.q with close := closes s3.q.headers } }) := by
    have nd := number_dec (n := b.length) (most := 18) (rest := []) (by omega) (by omega) (by intro c hc; cases hc)
    rw [List.append_nil] at nd
    unfold take takeHeader endHead expectLength
    rw [if_neg (by omega), if_pos st, bare_is (by simp)]
    simp only []
    rw [if_neg (by simp), if_pos trivial, vH, vT, vL]
    rw [if_neg (by simp), if_neg (by simp), if_pos rfl]
    simp only [List.headD_cons, nd]
    rw [if_neg (by simp), if_neg (by omega)]
  have r := runs_end (s := { s3 with size := b.length, step := 8, q := { s3.q with close := closes s3.q.headers, body := s3.q.body ++ b } }) (l := z) rfl
  have r1 := runs_bytes (s := { s3 with size := b.length, step := 2, q := { s3.q with close := closes s3.q.headers } }) (a := b) (by show 2 ≠ 8; omega) (by unfold wants; rw [if_pos (.inl rfl)]) (by unfold take takeBody; simp) r
  have r2 := runs_line (s := s3) (a := []) (by omega) (by unfold wants; rw [if_neg (by omega), if_neg (by omega)]) (by simp) (by simp) en r1
  have r3 := runs_line (s := s2) (a := nLen ++ 58 :: (32 :: digs 10 b.length)) (by decide) (by decide) n10 (by rw [List.length_append, List.length_cons, List.length_cons]; have : nLen.length = 14 := rfl; omega) a r2
  exact ⟨_, _, runs_head r3, by simp [bd], mt⟩
end Wire
end Go.Proofs.YtnodhbgkoedalaaGreatDoor

namespace Go.Proofs.YtnodhbgkoedalaaGreatDoor
namespace Wire
open Go.Lib
open Reply (tokn val trim small)

variable {s s' : St} {z y : B} {t : Nat} {c : Int}
/-- Chunks, each with its ending of the line. -/
def chunks (x : B) (l : List B) : B := l.flatMap fun b => (digs 16 b.length ++ x) ++ eol ++ (b ++ eol)
theorem chunks_cons (x b : B) (l : List B) : chunks x (b :: l) = (digs 16 b.length ++ x) ++ eol ++ (b ++ eol) ++ chunks x l := rfl
theorem runs_chunks {x : B} (hx : Ext x) (hxl : x.length ≤ 1000) {P : St → Prop} : ∀ (l : List B) (s : St), s.step = 3 → (∀ b ∈ l, 0 < b.length) → s.q.body.length + l.flatten.length ≤ 8192 →
    (∀ k, ∃ s', Runs reader { s with size := k, q := { s.q with body := s.q.body ++ l.flatten } } (y ++ z) y.length 0 s' ∧ P s') → ∃ s', Runs reader s ((chunks x l ++ y) ++ z) (chunks x l ++ y).length 0 s' ∧ P s'
  | [], s, _, _, _, h => by
    obtain ⟨s', r, p⟩ := h s.size
    refine ⟨s', ?_, p⟩
    have e : ({ s with size := s.size, q := { s.q with body := s.q.body ++ ([] : List B).flatten } } : St) = s := by simp
    rw [e] at r
    exact r
  | b :: l, s, hs, hb, hn, h => by
    rw [List.flatten_cons, List.length_append] at hn
    obtain ⟨s', r, p⟩ := runs_chunks hx hxl l { s with size := b.length, step := 3, q := { s.q with body := s.q.body ++ b } } rfl (fun x hx => hb x (List.mem_cons_of_mem _ hx)) (by simp only [List.length_append]; omega) (fun k => by
      obtain ⟨s', r, p⟩ := h k
      refine ⟨s', ?_, p⟩
      have e : ({ s with size := k, q := { s.q with body := s.q.body ++ (b :: l).flatten } } : St) = { s with size := k, step := 3, q := { s.q with body := s.q.body ++ b ++ l.flatten } } := by
        rw [List.flatten_cons, List.append_assoc, ← hs]
      rw [e] at r
      exact r)
    refine ⟨s', ?_, p⟩
    have r2 := runs_chunk (s := s) hs hx hxl (hb b (by simp)) (by omega) r
    have e : (chunks x (b :: l) ++ y) ++ z = (digs 16 b.length ++ x) ++ eol ++ (b ++ (eol ++ ((chunks x l ++ y) ++ z))) := by
      rw [chunks_cons]
      simp only [List.append_assoc]
    have el : (chunks x (b :: l) ++ y).length = (digs 16 b.length ++ x).length + 2 + (b.length + (1 + (1 + (chunks x l ++ y).length))) := by
      rw [chunks_cons]
      simp only [List.length_append]
      have : eol.length = 2 := rfl
      omega
    rw [e, el]
    exact r2
def zeros : B := [48, 48]
def noteX : B := [110, 111, 116, 101, 58, 32, 120]
/-- The law's end: a chunk of none, a trailer, and the end. -/
def tailL : B := zeros ++ eol ++ (noteX ++ eol ++ ([] ++ eol))
theorem runs_tail (hs : s.step = 3) (ht : s.trailers = 0) (z : B) : ∃ s', Runs reader s (tailL ++ z) tailL.length 0 s' ∧ s'.q = s.q := by
  have a : take s (zeros ++ eol) = (0, { s with step := 7 }) := by
    have nz : number zeros hexs 16 8 = some (0, []) := by decide
    unfold take takeChunkLine
    rw [if_neg (by omega), if_neg (by omega), if_neg (by omega), if_pos hs, bare_is (by decide)]
    simp only []
    rw [if_neg (by simp), nz]
    simp
  have b : take { s with step := 7 } (noteX ++ eol) = (0, { s with step := 7, trailers := 1 }) := by
    have e : noteX ≠ [] := by decide
    unfold take takeTrailer
    simp only []
    rw [if_neg (by omega), if_neg (by omega), if_neg (by omega), if_neg (by omega), if_neg (by omega), if_neg (by omega), if_neg (by omega), bare_is (by decide)]
    simp only [ht]
    rw [if_neg (by simp [e]), if_neg (by omega)]
  have d : take { s with step := 7, trailers := 1 } ([] ++ eol) = (0, { s with step := 8, trailers := 1 }) := by
    unfold take takeTrailer
    simp only []
    rw [if_neg (by omega), if_neg (by omega), if_neg (by omega), if_neg (by omega), if_neg (by omega), if_neg (by omega), if_neg (by omega), bare_is (by simp)]
    rw [if_pos ⟨rfl, rfl⟩]
  have w : ∀ v : St, v.step = 7 ∨ v.step = 3 → wants v = none := fun v hv => by unfold wants; rw [if_neg (by omega), if_neg (by omega)]
  have r := runs_end (s := { s with step := 8, trailers := 1 }) (l := z) rfl
  have r1 := runs_line (s := { s with step := 7, trailers := 1 }) (a := []) (by show 7 ≠ 8; omega) (w _ (.inl rfl)) (by simp) (by simp) d r
  have r2 := runs_line (s := { s with step := 7 }) (a := noteX) (by show 7 ≠ 8; omega) (w _ (.inl rfl)) (by decide) (by decide) b r1
  have r3 := runs_line (s := s) (a := zeros) (by omega) (w _ (.inr hs)) (by decide) (by decide) a r2
  exact ⟨_, r3, rfl⟩
def extL : B := [59, 120, 61, 34, 121, 34]
theorem ext_is : Ext extL := ⟨.inr ⟨59, _, rfl, by decide⟩, by decide, by decide⟩
def chunkH : B := (nTra ++ 58 :: vChu) ++ eol ++ ([] ++ eol)
/-- A body in chunks. -/
theorem runs_chunked {l : List B} (hl : ∀ b ∈ l, 0 < b.length) (hb : l.flatten.length ≤ 8192) (z : B) :
    ∃ s', Runs reader s0 (headL (chunkH ++ (chunks extL l ++ tailL)) ++ z) (headL (chunkH ++ (chunks extL l ++ tailL))).length 0 s' ∧ s'.q.body = l.flatten ∧ s'.q.headers.length = 2 := by
  have a := header_is (s := s2) (n := nTra) (v := vChu) rfl (by decide) (by decide) (by decide) (by decide) (by decide) (by decide)
  have e : (small nTra, trim vChu) = (Reply.nTE, ([67, 104, 117, 110, 107, 101, 100] : B)) := by decide
  rw [e] at a
  obtain ⟨s3, hs3⟩ : ∃ x, x = ({ s2 with head := s2.head + (nTra.length + vChu.length + 3), q := { s2.q with headers := s2.q.headers ++ [(Reply.nTE, ([67, 104, 117, 110, 107, 101, 100] : B))] } } : St) := ⟨_, rfl⟩
  rw [← hs3] at a
  have hq : s3.q.headers = [(nHost, [104]), (Reply.nTE, [67, 104, 117, 110, 107, 101, 100])] := by rw [hs3]; rfl
  have st : s3.step = 1 := by rw [hs3]; rfl
  have bd : s3.q.body = [] := by rw [hs3]; rfl
  have tr : s3.trailers = 0 := by rw [hs3]; rfl
  have vH : values s3.q.headers nHost = [[104]] := by rw [hq]; rfl
  have vT : values s3.q.headers Reply.nTE = [[67, 104, 117, 110, 107, 101, 100]] := by rw [hq]; rfl
  have vL : values s3.q.headers Reply.nCL = [] := by rw [hq]; rfl
  have sc : small ([67, 104, 117, 110, 107, 101, 100] : B) = wChunked := by decide
  have en : take s3 ([] ++ eol) = (0, { s3 with step := 3, q := { s3.q with close := closes s3.q.headers } }) := by
    unfold take takeHeader endHead
    rw [if_neg (by omega), if_pos st, bare_is (by simp)]
    simp only []
    rw [if_neg (by simp), if_pos trivial, vH, vT, vL]
    rw [if_neg (by simp), if_neg (by simp), if_neg (by simp), if_neg (by simp), if_neg (by simp [sc])]
  obtain ⟨s', r, p⟩ := runs_chunks (y := tailL) (z := z) (P := fun s' => s'.q.body = l.flatten ∧ s'.q.headers.length = 2) ext_is (by decide) l { s3 with step := 3, q := { s3.q with close := closes s3.q.headers } } rfl hl (by simp only [bd]; simpa using hb) (fun k => by
    obtain ⟨s', r, e⟩ := runs_tail (s := { s3 with size := k, step := 3, q := { s3.q with close := closes s3.q.headers, body := s3.q.body ++ l.flatten } }) rfl tr z
    exact ⟨s', r, by rw [e]; simp [bd], by rw [e]; simp [hq]⟩)
  have r2 := runs_line (s := s3) (a := []) (by omega) (by unfold wants; rw [if_neg (by omega), if_neg (by omega)]) (by simp) (by simp) en r
  have r3 := runs_line (s := s2) (a := nTra ++ 58 :: vChu) (by decide) (by decide) (by decide) (by decide) a r2
  have r4 := runs_head r3
  refine ⟨s', ?_, p⟩
  have e1 : headL (chunkH ++ (chunks extL l ++ tailL)) ++ z = headL ((nTra ++ 58 :: vChu) ++ eol ++ ([] ++ eol ++ ((chunks extL l ++ tailL) ++ z))) := by
    unfold headL chunkH
    simp only [List.append_assoc, List.nil_append]
  have e2 : (headL (chunkH ++ (chunks extL l ++ tailL))).length = 17 + (9 + ((nTra ++ 58 :: vChu).length + 2 + (([] : B).length + 2 + (chunks extL l ++ tailL).length))) := by
    unfold headL
    have f1 : (firstL ++ eol).length = 17 := rfl
    have f2 : (hostH ++ eol).length = 9 := rfl
    have f3 : chunkH.length = (nTra ++ 58 :: vChu).length + 4 := rfl
    rw [List.length_append, f1, List.length_append, f2, List.length_append, f3]
    simp only [List.length_nil]
    omega
  rw [e1, e2]
  exact r4
end Wire
end Go.Proofs.YtnodhbgkoedalaaGreatDoor

namespace Go.Proofs.YtnodhbgkoedalaaGreatDoor
namespace Wire
open Go.Lib
open Reply (tokn val trim small)

variable {s s' : St} {z y : B} {t : Nat} {c : Int}
/-- A state among the headers, of which one is host, and none tells of a body. -/
structure Plain (s : St) (hd k : Nat) : Prop where
  step : s.step = 1
  host : (values s.q.headers nHost).length = 1
  te : values s.q.headers Reply.nTE = []
  cl : values s.q.headers Reply.nCL = []
  head : s.head = hd
  cnt : s.q.headers.length = k
theorem values_snoc (hs : List (B × B)) (n m v : B) : values (hs ++ [(m, v)]) n = values hs n ++ (if m = n then [v] else []) := by
  unfold values
  rw [List.filter_append, List.map_append]
  congr 1
  by_cases h : m = n <;> simp [h]
theorem Plain.end_ {hd k : Nat} (h : Plain s hd k) : ∃ s', take s ([] ++ eol) = (0, s') ∧ s'.step = 8 := by
  refine ⟨{ s with step := 8, q := { s.q with close := closes s.q.headers } }, ?_, rfl⟩
  have st := h.step
  unfold take takeHeader endHead
  rw [if_neg (by omega), if_pos st, bare_is (by simp)]
  simp only []
  rw [if_neg (by simp), if_pos trivial, h.te, h.cl, if_neg (by rw [h.host]; simp), if_pos ⟨rfl, rfl⟩]
theorem wants_line (h : s.step ≤ 1) : wants s = none := by unfold wants; rw [if_neg (by omega), if_neg (by omega)]
theorem Plain.done {hd k : Nat} (h : Plain s hd k) (z : B) : ∃ t s', Runs reader s ([] ++ eol ++ z) t 0 s' := by
  obtain ⟨s', e, e8⟩ := h.end_
  have := h.step
  exact ⟨_, s', runs_line (s := s) (a := []) (by omega) (wants_line (by omega)) (by simp) (by simp) e (runs_end e8)⟩
/-- A header's line that tells nothing of host or body. -/
structure Other (n v : B) : Prop where
  tok : tokn n = true
  val : val v = true
  h13 : 13 ∉ n ++ 58 :: v
  h10 : 10 ∉ n ++ 58 :: v
  h58 : 58 ∉ n
  host : small n ≠ nHost
  te : small n ≠ Reply.nTE
  cl : small n ≠ Reply.nCL
theorem Plain.next {hd k : Nat} (h : Plain s hd k) {n v : B} (o : Other n v) (hl : (n ++ 58 :: v).length ≤ 1024) (hh : hd + (n.length + v.length + 3) ≤ 4096) (hk : k < 32)
    (hz : ∀ s1, Plain s1 (hd + (n.length + v.length + 3)) (k + 1) → ∃ t s', Runs reader s1 z t c s') : ∃ t s', Runs reader s ((n ++ 58 :: v) ++ eol ++ z) t c s' := by
  have a := header_is (s := s) (n := n) (v := v) h.step o.tok o.val o.h13 o.h58 (by rw [h.head]; exact hh) (by rw [h.cnt]; omega)
  obtain ⟨s1, hs1⟩ : ∃ x, x = ({ s with head := s.head + (n.length + v.length + 3), q := { s.q with headers := s.q.headers ++ [(small n, trim v)] } } : St) := ⟨_, rfl⟩
  rw [← hs1] at a
  have hq : s1.q.headers = s.q.headers ++ [(small n, trim v)] := by rw [hs1]
  obtain ⟨t, s', r⟩ := hz s1 ⟨by rw [hs1]; exact h.step, by rw [hq, values_snoc, if_neg o.host, List.append_nil]; exact h.host, by rw [hq, values_snoc, if_neg o.te, List.append_nil]; exact h.te, by rw [hq, values_snoc, if_neg o.cl, List.append_nil]; exact h.cl, by rw [hs1, ← h.head], by rw [hq, List.length_append, h.cnt]; rfl⟩
  have := h.step
  exact ⟨_, _, runs_line (by omega) (wants_line (by omega)) o.h10 hl a r⟩
/-- One header too many, or too many bytes of headers. -/
theorem Plain.over {hd k : Nat} (h : Plain s hd k) {n v : B} (o : Other n v) (hl : (n ++ 58 :: v).length ≤ 1024) (hh : 4096 < hd + (n.length + v.length + 3) ∨ k = 32) (z : B) : ∃ t s', Runs reader s ((n ++ 58 :: v) ++ eol ++ z) t 431 s' := by
  have st := h.step
  have el : ((n ++ 58 :: v) ++ eol).length = n.length + v.length + 3 := by simp [eol]; omega
  have a : take s ((n ++ 58 :: v) ++ eol) = (431, { s with head := s.head + (n.length + v.length + 3) }) := by
    unfold take takeHeader
    rw [if_neg (by omega), if_pos st, bare_is o.h13]
    simp only []
    rw [if_neg (by simp), if_neg (by simp), el, if_pos (by rw [h.head, h.cnt]; exact hh)]
  exact ⟨_, _, runs_line_stop (by omega) (wants_line (by omega)) o.h10 hl (by omega) a⟩
/-- A header's line that is too long. -/
theorem Plain.long {hd k : Nat} (h : Plain s hd k) {a : B} (h10 : 10 ∉ a.take 1026) (hl : 1026 ≤ a.length) : ∃ t s', Runs reader s a t 431 s' := by
  have st := h.step
  have k' : size a (reader.wants s) = 1026 := by
    show size _ (wants s) = _
    rw [wants_line (by omega)]
    exact lineSize_long h10
  have e : take s (a.take 1026) = (431, s) := by
    unfold take takeHeader
    rw [if_neg (by omega), if_pos st, bare_long h10]
    simp only []
    rw [if_pos (by simp)]
  exact ⟨_, _, Runs.stop (M := reader) (s := s) (s' := s) (l := a) (c := 431) (by show decide _ = false; rw [decide_eq_false_iff_not]; omega) (by rw [k']; exact hl) (by rw [k']; exact e) (by omega)⟩
/-- A request line that is too long. -/
theorem first_long {a : B} (h10 : 10 ∉ a.take 1026) (hl : 1026 ≤ a.length) : ∃ t s', Runs reader s0 a t 414 s' := by
  have k' : size a (reader.wants s0) = 1026 := by
    show size _ (wants s0) = _
    rw [wants_line (by decide)]
    exact lineSize_long h10
  have e : take s0 (a.take 1026) = (414, s0) := by
    unfold take takeFirst
    rw [if_pos (show s0.step = 0 from rfl), bare_long h10]
    simp only []
    rw [if_pos (by simp)]
  exact ⟨_, _, Runs.stop (M := reader) (s := s0) (s' := s0) (l := a) (c := 414) rfl (by rw [k']; exact hl) (by rw [k']; exact e) (by omega)⟩
/-! ### the law's five texts -/
def pad (n : Nat) : B := List.replicate n 120
theorem pad_mem {n : Nat} {x : UInt8} (h : x ∈ pad n) : x = 120 := List.eq_of_mem_replicate h
theorem pad_val (n : Nat) : val (pad n) = true := by
  unfold val
  rw [List.all_eq_true]
  intro x hx
  rw [pad_mem hx]
  decide
theorem other_pad {c : UInt8} (n : Nat) (hc : c = 97 ∨ c = 98) : Other [c] (pad n) := by
  rcases hc with rfl | rfl
  all_goals
    refine ⟨by decide, pad_val n, fun h => ?_, fun h => ?_, by decide, by decide, by decide, by decide⟩ <;>
    · rcases List.mem_cons.1 h with h | h
      · cases h
      · rcases List.mem_cons.1 h with h | h
        · cases h
        · cases pad_mem h
def get : B := [71, 69, 84]
def getS (m : Nat) : B := get ++ 32 :: ((47 :: pad m) ++ 32 :: http11)
theorem getS_no {m : Nat} {x : UInt8} (hx : x ≠ 120) (h1 : x ∉ get ++ 32 :: (47 :: (32 :: http11))) : x ∉ getS m := fun h => by
  apply h1
  unfold getS at h
  rcases List.mem_append.1 h with h | h
  · simp [h]
  · rcases List.mem_cons.1 h with h | h
    · simp [h]
    · rcases List.mem_append.1 h with h | h
      · rcases List.mem_cons.1 h with h | h
        · simp [h]
        · exact absurd (pad_mem h) hx
      · rcases List.mem_cons.1 h with h | h
        · simp [h]
        · simp [h]
theorem getS_len (m : Nat) : (getS m).length = 14 + m := by
  unfold getS
  have : get.length = 3 := rfl
  have : http11.length = 8 := rfl
  simp only [List.length_append, List.length_cons, pad, List.length_replicate]
  omega
/-- The request line, and host: then a plain state. -/
theorem runs_get {m : Nat} (hm : m ≤ 1010) (hz : ∀ s1, Plain s1 9 1 → ∃ t s', Runs reader s1 z t c s') : ∃ t s', Runs reader s0 (getS m ++ eol ++ (hostH ++ eol ++ z)) t c s' := by
  have tg : isTarget (47 :: pad m) = true := by
    unfold isTarget
    have : (47 :: pad m).all (fun c => decide (33 ≤ c.toNat ∧ c.toNat ≤ 126)) = true := by
      rw [List.all_eq_true]
      intro x hx
      rcases List.mem_cons.1 hx with rfl | hx
      · decide
      · rw [pad_mem hx]; decide
    rw [this]
    rfl
  have a := first_is (s := s0) (m := get) (v := 47 :: pad m) rfl (by decide) tg (getS_no (m := m) (by decide) (by decide)) (by decide) (fun h => by
    rcases List.mem_cons.1 h with h | h
    · cases h
    · cases pad_mem h)
  have b := header_is (s := { s0 with step := 1, q := { s0.q with method := get, target := 47 :: pad m } }) (n := nHost) (v := [32, 104]) rfl (by decide) (by decide) (by decide) (by decide) (by show 0 + _ ≤ 4096; decide) (by show 0 ≠ 32; decide)
  have e : (small nHost, trim [32, 104]) = (nHost, ([104] : B)) := by decide
  rw [e] at b
  obtain ⟨s1, hs1⟩ : ∃ x, x = ({ s0 with step := 1, head := 0 + (nHost.length + ([32, 104] : B).length + 3), q := { s0.q with method := get, target := 47 :: pad m, headers := [(nHost, [104])] } } : St) := ⟨_, rfl⟩
  have hq : s1.q.headers = [(nHost, [104])] := by rw [hs1]
  have b' : take { s0 with step := 1, q := { s0.q with method := get, target := 47 :: pad m } } (hostH ++ eol) = (0, s1) := by rw [hs1]; exact b
  obtain ⟨t, s', r⟩ := hz s1 ⟨by rw [hs1], by rw [hq]; decide, by rw [hq]; decide, by rw [hq]; decide, by rw [hs1]; rfl, by rw [hq]; rfl⟩
  exact ⟨_, _, runs_line (s := s0) (a := getS m) (by decide) (by decide) (getS_no (by decide) (by decide)) (by rw [getS_len]; omega) a (runs_line (a := hostH) (by show 1 ≠ 8; decide) rfl (by decide) (by decide) b' r)⟩
end Wire
end Go.Proofs.YtnodhbgkoedalaaGreatDoor

namespace Go.Proofs.YtnodhbgkoedalaaGreatDoor
namespace Wire
open Go.Lib
open Reply (tokn val trim small)

variable {s s' : St} {z y : B} {t : Nat} {c : Int}
theorem no_lf {a : B} (h : 10 ∉ a) (hl : 1025 ≤ a.length) (z : B) : 10 ∉ (a ++ eol ++ z).take 1026 ∧ 1026 ≤ (a ++ eol ++ z).length := by
  have e : a ++ eol ++ z = (a ++ [13]) ++ (10 :: z) := by unfold eol; simp
  refine ⟨fun hm => ?_, by simp [eol]; omega⟩
  rw [e, List.take_append_of_le_length (by simp; omega)] at hm
  rcases List.mem_append.1 (List.mem_of_mem_take hm) with hm | hm
  · exact h hm
  · simp at hm
/-- The request line. -/
theorem lim_line (k : Nat) : ∃ t s', Runs reader s0 (getS (1010 + k) ++ eol ++ (hostH ++ eol ++ ([] ++ eol ++ []))) t (if k = 0 then 0 else 414) s' := by
  by_cases h : k = 0
  · subst h
    exact runs_get (by omega) (fun s1 h1 => h1.done [])
  · rw [if_neg h]
    obtain ⟨a, b⟩ := no_lf (a := getS (1010 + k)) (getS_no (by decide) (by decide)) (by rw [getS_len]; omega) (hostH ++ eol ++ ([] ++ eol ++ []))
    exact first_long a b
theorem pad_len (n : Nat) : (pad n).length = n := List.length_replicate
/-- A header's line. -/
theorem lim_head (k : Nat) : ∃ t s', Runs reader s0 (getS 0 ++ eol ++ (hostH ++ eol ++ (([97] ++ 58 :: pad (1022 + k)) ++ eol ++ ([] ++ eol ++ [])))) t (if k = 0 then 0 else 431) s' := by
  refine runs_get (by omega) (fun s1 h1 => ?_)
  have ln : ([97] ++ 58 :: pad (1022 + k)).length = 1024 + k := by simp only [List.length_append, List.length_cons, List.length_nil, pad_len]; omega
  by_cases h : k = 0
  · subst h
    exact h1.next (other_pad _ (.inl rfl)) (by rw [ln]; omega) (by rw [pad_len]; simp) (by omega) (fun s2 h2 => h2.done [])
  · rw [if_neg h]
    obtain ⟨a, b⟩ := no_lf (a := [97] ++ 58 :: pad (1022 + k)) (other_pad _ (.inl rfl)).h10 (by rw [ln]; omega) ([] ++ eol ++ [])
    exact h1.long a b
/-- All headers' lines. -/
theorem lim_heads (k : Nat) (hk : k ≤ 2) : ∃ t s', Runs reader s0 (getS 0 ++ eol ++ (hostH ++ eol ++ (([97] ++ 58 :: pad 1020) ++ eol ++ (([97] ++ 58 :: pad 1020) ++ eol ++ (([97] ++ 58 :: pad 1020) ++ eol ++ (([98] ++ 58 :: pad (1011 + k)) ++ eol ++ ([] ++ eol ++ []))))))) t (if k = 0 then 0 else 431) s' := by
  have ln : ∀ (c : UInt8) m, ([c] ++ 58 :: pad m).length = 2 + m := fun c m => by simp only [List.length_append, List.length_cons, List.length_nil, pad_len]; omega
  refine runs_get (by omega) (fun s1 h1 => ?_)
  refine h1.next (other_pad _ (.inl rfl)) (by rw [ln]; omega) (by rw [pad_len]; simp) (by omega) (fun s2 h2 => ?_)
  refine h2.next (other_pad _ (.inl rfl)) (by rw [ln]; omega) (by rw [pad_len]; simp) (by omega) (fun s3 h3 => ?_)
  refine h3.next (other_pad _ (.inl rfl)) (by rw [ln]; omega) (by rw [pad_len]; simp) (by omega) (fun s4 h4 => ?_)
  by_cases h : k = 0
  · subst h
    exact h4.next (other_pad _ (.inr rfl)) (by rw [ln]; omega) (by rw [pad_len, pad_len]; simp) (by omega) (fun s5 h5 => h5.done [])
  · rw [if_neg h]
    exact h4.over (other_pad _ (.inr rfl)) (by rw [ln]; omega) (.inl (by rw [pad_len, pad_len]; simp; omega)) _
/-- So many headers without a value. -/
def many : Nat → B → B
  | 0, z => z
  | n + 1, z => ([97] ++ 58 :: []) ++ eol ++ many n z
theorem runs_many : ∀ (n : Nat) (s : St) (hd k : Nat), Plain s hd k → hd + 4 * n ≤ 4096 → k ≤ 32 → ∃ t s', Runs reader s (many n ([] ++ eol ++ [])) t (if k + n ≤ 32 then 0 else 431) s'
  | 0, s, hd, k, h, _, hk => by
    rw [if_pos (by omega)]
    exact h.done []
  | n + 1, s, hd, k, h, hh, hk => by
    have o : Other [97] [] := other_pad 0 (.inl rfl)
    by_cases e : k = 32
    · rw [if_neg (by omega)]
      exact h.over o (by simp) (.inr e) _
    · have e1 : (if k + (n + 1) ≤ 32 then (0 : Int) else 431) = if k + 1 + n ≤ 32 then 0 else 431 := by rw [Nat.add_right_comm, Nat.add_assoc]
      rw [e1]
      exact h.next o (by simp) (by simp; omega) (by omega) (fun s1 h1 => runs_many n s1 _ _ h1 (by simp; omega) (by omega))
theorem lim_many (k : Nat) (hk : k ≤ 2) : ∃ t s', Runs reader s0 (getS 0 ++ eol ++ (hostH ++ eol ++ many (31 + k) ([] ++ eol ++ []))) t (if k = 0 then 0 else 431) s' := by
  have e : (if k = 0 then (0 : Int) else 431) = if 1 + (31 + k) ≤ 32 then 0 else 431 := by
    by_cases h : k = 0
    · rw [if_pos h, if_pos (by omega)]
    · rw [if_neg h, if_neg (by omega)]
  rw [e]
  exact runs_get (by omega) (fun s1 h1 => runs_many _ s1 9 1 h1 (by omega) (by omega))
/-- A length that is told. -/
theorem Plain.sized {hd k n : Nat} (h : Plain s hd k) (hh : hd ≤ 2000) (hk : k < 32) (hn : n < 10000) {b z : B} (hb : n ≤ 8192 → b.length = n) :
    ∃ t s', Runs reader s ((Reply.nCL ++ 58 :: (32 :: digs 10 n)) ++ eol ++ ([] ++ eol ++ (b ++ z))) t (if n ≤ 8192 then 0 else 413) s' := by
  have dl : (digs 10 n).length ≤ 4 := digs_len (by omega) 3 _ (by omega)
  have no : ∀ x : UInt8, x ∉ Reply.nCL ++ [58, 32] → (∀ d, d < 16 → hexD d ≠ x) → x ∉ Reply.nCL ++ 58 :: (32 :: digs 10 n) := fun x hx hd hm => by
    rcases List.mem_append.1 hm with hm | hm
    · exact hx (List.mem_append.2 (.inl hm))
    · rcases List.mem_cons.1 hm with hm | hm
      · exact hx (List.mem_append.2 (.inr (by simp [hm])))
      · rcases List.mem_cons.1 hm with hm | hm
        · exact hx (List.mem_append.2 (.inr (by simp [hm])))
        · exact digs_no (by omega) (by omega) _ x hd hm
  have nl : Reply.nCL.length = 14 := rfl
  have a := header_is (s := s) (n := Reply.nCL) (v := 32 :: digs 10 n) h.step (by decide) (digs_val _) (no 13 (by decide) (by decide)) (by decide) (by rw [h.head, nl, List.length_cons]; omega) (by rw [h.cnt]; omega)
  have e : (small Reply.nCL, trim (32 :: digs 10 n)) = (Reply.nCL, digs 10 n) := by
    rw [show small Reply.nCL = Reply.nCL from by decide, show (32 : UInt8) :: digs 10 n = [32] ++ digs 10 n from rfl, trim_white (by decide) (trim_solid (digs_solid _))]
  rw [e] at a
  obtain ⟨s3, hs3⟩ : ∃ x, x = ({ s with head := s.head + (Reply.nCL.length + (32 :: digs 10 n).length + 3), q := { s.q with headers := s.q.headers ++ [(Reply.nCL, digs 10 n)] } } : St) := ⟨_, rfl⟩
  rw [← hs3] at a
  have hq : s3.q.headers = s.q.headers ++ [(Reply.nCL, digs 10 n)] := by rw [hs3]
  have st : s3.step = 1 := by rw [hs3]; exact h.step
  have vH : (values s3.q.headers nHost).length = 1 := by rw [hq, values_snoc, if_neg (by decide), List.append_nil]; exact h.host
  have vT : values s3.q.headers Reply.nTE = [] := by rw [hq, values_snoc, if_neg (by decide), List.append_nil]; exact h.te
  have vL : values s3.q.headers Reply.nCL = [digs 10 n] := by rw [hq, values_snoc, if_pos rfl, h.cl]; rfl
  have sw := h.step
  have nd := number_dec (n := n) (most := 18) (rest := []) (by omega) (by omega) (by intro c hc; cases hc)
  rw [List.append_nil] at nd
  have ln : (Reply.nCL ++ 58 :: (32 :: digs 10 n)).length ≤ 1024 := by rw [List.length_append, List.length_cons, List.length_cons, nl]; omega
  by_cases hs : n ≤ 8192
  · rw [if_pos hs]
    have hb := hb hs
    have en : take s3 ([] ++ eol) = (0, { s3 with size := b.length, step := 2, q := { s3.q with close := closes s3.q.headers } }) := by
      unfold take takeHeader endHead expectLength
      rw [if_neg (by omega), if_pos st, bare_is (by simp)]
      simp only []
      rw [if_neg (by simp), if_pos trivial, vT, vL]
      rw [if_neg (by rw [vH]; simp), if_neg (by simp), if_pos rfl]
      simp only [List.headD_cons, nd]
      rw [if_neg (by simp), if_neg (by omega), hb]
    have r := runs_end (s := { s3 with size := b.length, step := 8, q := { s3.q with close := closes s3.q.headers, body := s3.q.body ++ b } }) (l := z) rfl
    have r1 := runs_bytes (s := { s3 with size := b.length, step := 2, q := { s3.q with close := closes s3.q.headers } }) (a := b) (by show 2 ≠ 8; omega) (by unfold wants; rw [if_pos (.inl rfl)]) (by unfold take takeBody; simp) r
    have r2 := runs_line (s := s3) (a := []) (by omega) (wants_line (by omega)) (by simp) (by simp) en r1
    exact ⟨_, _, runs_line (s := s) (by omega) (wants_line (by omega)) (no 10 (by decide) (by decide)) ln a r2⟩
  · rw [if_neg hs]
    have en : take s3 ([] ++ eol) = (413, { s3 with q := { s3.q with close := closes s3.q.headers } }) := by
      unfold take takeHeader endHead expectLength
      rw [if_neg (by omega), if_pos st, bare_is (by simp)]
      simp only []
      rw [if_neg (by simp), if_pos trivial, vT, vL]
      rw [if_neg (by rw [vH]; simp), if_neg (by simp), if_pos rfl]
      simp only [List.headD_cons, nd]
      rw [if_neg (by simp), if_pos (by omega)]
    have r2 := runs_line_stop (s := s3) (a := []) (z := b ++ z) (by omega) (wants_line (by omega)) (by simp) (by simp) (by omega) en
    exact ⟨_, _, runs_line (s := s) (by omega) (wants_line (by omega)) (no 10 (by decide) (by decide)) ln a r2⟩
theorem lim_body (k : Nat) (hk : k ≤ 2) : ∃ t s', Runs reader s0 (getS 0 ++ eol ++ (hostH ++ eol ++ ((Reply.nCL ++ 58 :: (32 :: digs 10 (8192 + k))) ++ eol ++ ([] ++ eol ++ (pad 8192 ++ []))))) t (if k = 0 then 0 else 413) s' := by
  have e : (if k = 0 then (0 : Int) else 413) = if 8192 + k ≤ 8192 then 0 else 413 := by
    by_cases h : k = 0
    · rw [if_pos h, if_pos (by omega)]
    · rw [if_neg h, if_neg (by omega)]
  rw [e]
  exact runs_get (by omega) (fun s1 h1 => h1.sized (by omega) (by omega) (by omega) (fun h => by rw [pad_len]; omega))
end Wire
end Go.Proofs.YtnodhbgkoedalaaGreatDoor
