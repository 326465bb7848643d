/-
  reply: the reader: a line, a line taken off, what doesn't hold.
-/
import Derived.Test.YtdojchamdcokiaaDoorR16
namespace Go.Proofs.YtdojchamdcokiaaDoor
open Go.RowKit Reply

/-- A reader in block p with this rest, lost or not, within a call that began in w0. -/
structure RS (w0 w : World) (p : Nat) (l : B) (lost : Bool) : Prop where
  env : Env w0
  lo : w0.heap.size ≤ p
  bel : Below w0.heap.size w0 w
  blk : Held w p 52 #[.string (S l), .bool lost]
theorem RS.envw {w0 w : World} {p : Nat} {l : B} {lost : Bool} (h : RS w0 w p l lost) : Env w := h.env.below h.bel
theorem RS.under {w0 w w' : World} {p : Nat} {l : B} {lost : Bool} (h : RS w0 w p l lost) (k : Below w.heap.size w w') : RS w0 w' p l lost :=
  ⟨h.env, h.lo, h.bel.trans (k.mono h.bel.size), Held.below h.blk k h.blk.lt⟩
theorem RS.rest {w0 w : World} {p : Nat} {l : B} {lost : Bool} (h : RS w0 w p l lost) (l' : B) : RS w0 (w.setCell ⟨p, 0, none⟩ (.string (S l'))) p l' lost :=
  ⟨h.env, h.lo, h.bel.setCell (p := ⟨p, 0, none⟩) h.lo _, h.blk.set_ 0 _⟩
theorem RS.lost_ {w0 w : World} {p : Nat} {l : B} {lost : Bool} (h : RS w0 w p l lost) (b : Bool) : RS w0 (w.setCell ⟨p, 1, none⟩ (.bool b)) p l b :=
  ⟨h.env, h.lo, h.bel.setCell (p := ⟨p, 1, none⟩) h.lo _, h.blk.set_ 1 _⟩
theorem only_set (p i : Nat) (w : World) (u : Value) : Only [p] w (w.setCell ⟨p, i, none⟩ u) := (Only.refl [p] w).setCell (p := ⟨p, i, none⟩) (.inl (by simp)) u
theorem takeLine_is (line l : B) : takeLine line l = (Lib.hasPrefix l (line ++ crlf), Lib.trimPrefix l (line ++ crlf)) := by
  unfold takeLine Lib.trimPrefix Lib.hasPrefix
  cases h : (line ++ crlf).isPrefixOf l <;> simp
set_option maxRecDepth 100000 in
set_option maxHeartbeats 4000000 in
theorem takeline_any (w0 w : World) (p : Nat) (l line : B) (lost : Bool) (h : RS w0 w p l lost) (hl : line.length ≤ 1048576) :
    Calls Tryd.prog 19 #[.pointer (some ⟨p, 0, none⟩), .string (S line)] w fun e w' => e = .returned (.bool (takeLine line l).1) ∧ RS w0 w' p (takeLine line l).2 lost ∧ Only [p] w w' := by
  have H := Lib.hid h
  have c0 := h.blk.cell 0
  have y0 := h.blk.frozen 0
  obtain ⟨t, ht⟩ : ∃ x, x = S line := ⟨_, rfl⟩
  have tz : t.size ≤ 1048576 := by rw [ht, S_size]; exact hl
  have q1 : ¬ 9223372036854775807 < t.size + 2 := by omega
  have CP : Hid (∀ u, Calls Tryd.prog 31 #[.string (S l), .string (t ++ ⟨#[13, 10]⟩)] u fun e w' => e = .returned (.tuple #[.string (S (takeLine line l).2), .bool (takeLine line l).1]) ∧ u = w') := fun u => by
    rw [ht, show (⟨#[13, 10]⟩ : ByteArray) = S crlf from rfl, S_append, takeLine_is]
    exact cutpre_any u l (line ++ crlf)
  rw [← ht]
  obtain ⟨z, hz⟩ : ∃ x, x = (takeLine line l).2 := ⟨_, rfl⟩
  obtain ⟨b, hb⟩ : ∃ x, x = (takeLine line l).1 := ⟨_, rfl⟩
  rw [← hz, ← hb] at CP ⊢
  have N1 : Hid (RS w0 (w.setCell ⟨p, 0, none⟩ (.string (S z))) p z lost) := h.rest z
  have N2 := Lib.hid (only_set p 0 w (.string (S z)))
  clear ht hz hb h
  go_enter Tryd.func19, Tryd.ntmps19
  go_wp2_with fail
  refine (CP.out _).mono ?_
  rintro e w' ⟨rfl, rfl⟩
  clear CP
  go_wp2_with fail
  go_ret
  exact ⟨rfl, N1.out, N2.out⟩
set_option maxRecDepth 100000 in
set_option maxHeartbeats 4000000 in
theorem need_any (w0 w : World) (p : Nat) (l : B) (lost b : Bool) (h : RS w0 w p l lost) :
    Calls Tryd.prog 20 #[.pointer (some ⟨p, 0, none⟩), .bool b] w fun e w' => e = .returned (.tuple #[]) ∧ RS w0 w' p l (lost || !b) ∧ Only [p] w w' := by
  have c1 := h.blk.cell 1
  have y1 := h.blk.frozen 1
  have N1 := Lib.hid (h.lost_ (lost || !b))
  have N2 := Lib.hid (only_set p 1 w (.bool (lost || !b)))
  clear h
  cases lost
  · go_enter Tryd.func20, Tryd.ntmps20
    go_wp2_with fail
    go_end0
    exact ⟨rfl, N1.out, N2.out⟩
  · go_enter Tryd.func20, Tryd.ntmps20
    go_wp2_with fail
    go_end0
    exact ⟨rfl, N1.out, N2.out⟩
set_option maxRecDepth 100000 in
set_option maxHeartbeats 4000000 in
theorem line_any (w0 w : World) (p : Nat) (l : B) (lost : Bool) (h : RS w0 w p l lost) (hl : l.length ≤ 1073741824) :
    Calls Tryd.prog 29 #[.pointer (some ⟨p, 0, none⟩)] w fun e w' => e = .returned (.string (S (Lib.cut l crlf).1)) ∧ Below w.heap.size w w' := by
  have c0 := h.blk.cell 0
  have CU := Lib.hid (cut_any w h.envw l crlf (by omega))
  obtain ⟨a, ha⟩ : ∃ x, x = (Lib.cut l crlf).1 := ⟨_, rfl⟩
  obtain ⟨z, hz⟩ : ∃ x, x = (Lib.cut l crlf).2.1 := ⟨_, rfl⟩
  obtain ⟨b, hb⟩ : ∃ x, x = (Lib.cut l crlf).2.2 := ⟨_, rfl⟩
  rw [← ha, ← hz, ← hb] at CU
  rw [← ha]
  clear ha hz hb h
  go_enter Tryd.func29, Tryd.ntmps29
  go_wp2_with fail
  refine CU.out.mono ?_
  rintro e w1 ⟨rfl, hb1⟩
  have B1 := Lib.hid hb1
  clear hb1 CU
  go_wp2_with fail
  go_ret
  exact ⟨rfl, B1.out⟩
end Go.Proofs.YtdojchamdcokiaaDoor
