/-
  xml: text, over what WriteRune writes.
-/
import Derived.Test.YteefjmdallpihaaGreatDoorQX2
import Derived.Test.YteefjmdallpihaaGreatDoorXmB
namespace Go.Proofs.YteefjmdallpihaaGreatDoor
namespace Xml
variable {s s' : St}
theorem remark_bad {n : Nat} (h : comment s = .bad n) : remark s = .bad n := by unfold remark; rw [h]; rfl
theorem remark_com (h : comment s = .ok true s') : remark s = .ok true s' := by unfold remark; rw [h]; rfl
theorem remark_ins (h : comment s = .ok false s') : remark s = instruction s := by
  have e := (comment_ok h).2.2.1 rfl
  unfold remark
  rw [h, e]
  rfl
theorem text_bad {f n : Nat} {l : B} (h : remark s = .bad n) : text (f + 1) s l = .bad n := by
  show (remark s).then _ = _
  rw [h]; rfl
theorem text_rem {f : Nat} {l : B} (h : remark s = .ok true s') : text (f + 1) s l = text f s' l := by
  show (remark s).then _ = _
  rw [h]; rfl
theorem text_else {f : Nat} {l : B} (h : remark s = .ok false s') : text (f + 1) s l = (if (skip s tCdata).1 then (upto (skip s tCdata).2 tCdataEnd).then fun i s => text f s (l ++ unify i)
    else if (skip s [38]).1 then (reference (skip s [38]).2).then fun c s => text f s (l ++ utf8 c)
    else if s.rest = [] ∨ s.rest.headD 0 = 60 then .ok l s
    else if hasB (plain s [60, 38]).1 tCdataEnd then .bad 30 else text f (plain s [60, 38]).2 (l ++ unify (plain s [60, 38]).1)) := by
  have e := (remark_ok h).2.2.1 rfl
  show (remark s).then _ = _
  rw [h, e]; rfl
theorem utf8_le (c : Nat) : (utf8 c).length ≤ 4 := by
  unfold utf8
  split
  · simp
  · split
    · simp
    · split <;> simp
theorem reference_ok {n : Nat} (h : reference s = .ok n s') : s'.rest.length < s.rest.length ∧ s'.spaces = s.spaces := by
  unfold reference at h
  cases hu : upto s [59] with
  | bad n => rw [hu] at h; cases h
  | ok a s1 =>
    rw [hu] at h
    have u := upto_ok hu
    have e1 : ([59] : B).length = 1 := rfl
    have g : s' = s1 := by
      simp only [Res.then] at h
      have num : ∀ b d, numbered s1 b d = .ok n s' → s' = s1 := fun b d hh => by
        unfold numbered at hh
        split at hh
        · cases hh
        · cases hn : numOf b 0 d with
          | none => rw [hn] at hh; cases hh
          | some m =>
            rw [hn] at hh
            simp only at hh
            split at hh
            · injection hh with _ h2; exact h2.symm
            · cases hh
      repeat' split at h
      all_goals first
        | (injection h; done)
        | (injection h with _ h2; exact h2.symm)
        | exact num _ _ h
    subst g
    exact ⟨by omega, u.2⟩
theorem reference_letter {n : Nat} (h : reference s = .ok n s') : letter n = true := by
  unfold reference at h
  cases hu : upto s [59] with
  | bad n => rw [hu] at h; cases h
  | ok a s1 =>
    rw [hu] at h
    simp only [Res.then] at h
    have num : ∀ b d, numbered s1 b d = .ok n s' → letter n = true := fun b d hh => by
      unfold numbered at hh
      split at hh
      · cases hh
      · cases hn : numOf b 0 d with
        | none => rw [hn] at hh; cases hh
        | some m =>
          rw [hn] at hh
          simp only at hh
          split at hh
          · rename_i hm
            injection hh with h1 _
            rw [← h1]
            exact hm.2
          · cases hh
    repeat' split at h
    all_goals first
      | (injection h; done)
      | (injection h with h1 _; rw [← h1]; decide)
      | exact num _ _ h
theorem plain_lt {o : B} {c : UInt8} {r : B} (h : s.rest = c :: r) (ho : c ∉ o) : (plain s o).2.rest.length < s.rest.length ∧ (plain s o).2.spaces = s.spaces := by
  unfold plain
  split
  · refine ⟨?_, rfl⟩
    show (s.rest.drop s.rest.length).length < _
    rw [List.length_drop, h]; simp
  · rename_i hi
    refine ⟨?_, rfl⟩
    show (s.rest.drop (Go.Lib.indexAny s.rest o).toNat).length < _
    have : Go.Lib.indexAny s.rest o ≠ 0 := by
      rw [h]
      unfold Go.Lib.indexAny
      have hc : o.contains c = false := by simpa using ho
      rw [hc]
      simp only [Bool.false_eq_true, if_false]
      have hge := Go.Lib.indexAny_ge o r
      split
      · omega
      · rename_i hne
        have : Go.Lib.indexAny r o ≠ -1 := by simpa using hne
        omega
    generalize Go.Lib.indexAny s.rest o = i at *
    rw [List.length_drop, h]
    simp only [List.length_cons]
    omega
theorem plain_len (s : St) (o : B) : (plain s o).1.length + (plain s o).2.rest.length = s.rest.length := by
  unfold plain take
  split <;> simp only [List.length_take, List.length_drop] <;> omega
end Xml
open Go.RowKit Reply Go.Shelf

/-- WriteRune writes a letter's bytes. -/
def RuneX : Prop := ∀ (base b : Nat) (l : Reply.B) (x : Nat) (w : World), BldU w base b l → l.length ≤ 1048576 → base ≤ w.heap.size → Xml.letter x = true →
  Calls Tryz.prog 85 #[.pointer (some ⟨b, 0, none⟩), .int .i32 (x : Int)] w fun e w' => (∃ v, e = .returned v) ∧ BldU w' base b (l ++ Xml.utf8 x) ∧ Below base w w' ∧ BKept b w w'
theorem containsX_any (w : World) (E : EnvX w) (l p : Reply.B) (hl : l.length < 4294967281) (t : ByteArray) (ht : t = S p) :
    Calls Tryz.prog 84 #[.string (S l), .string t] w fun e w' => e = .returned (.bool (Xml.hasB l p)) ∧ Below w.heap.size w w' := by
  subst ht
  obtain ⟨m, hm⟩ := E.mx
  refine (Tryz.strings_Contains (S l) (S p) m w (by rw [S_size]; exact hl) hm).mono ?_
  rintro e w' ⟨rfl, rfl⟩
  refine ⟨?_, Below.refl _ _⟩
  rfl
/-- A builder of the call's own beside what a reader's call turns. -/
theorem BldU.frx {w w' : World} {base b C p : Nat} {l : Reply.B} {cs : Array Value} (h : BldU w base b l) (hp : Held w p 56 cs) (f : FrX C p w w') : BldU w' base b l := by
  have key : ∀ q, Lib.BuilderAtF 61 5 base b q ((l.map fun x : UInt8 => x.toNat).map u8v) w → Lib.BuilderAtF 61 5 base b q ((l.map fun x : UInt8 => x.toNat).map u8v) w' := by
    rintro q ⟨hB, v, hb, hown, hne⟩
    have ne : ∀ (k : Nat) (cs : Array Value) (t : TypeId) (m : Nat × Nat), w.heap[k]? = some (.cells cs t m) → t ≠ 56 → t ≠ 53 → w'.heap[k]? = w.heap[k]? := fun k cs t m hk h1 h2 =>
      f.block k (Array.getElem?_eq_some_iff.1 hk).1 (fun e => by
        subst e
        have e := hk.symm.trans hp
        injection e with e
        injection e with _ e _
        exact h1 e) (fun cs' t' m' hk' e => by
        have e2 := hk.symm.trans hk'
        injection e2 with e2
        injection e2 with _ e2 _
        exact h2 (e2.trans e.2))
    refine ⟨hB, v, (ne b _ _ _ hb (by decide) (by decide)).trans hb, ⟨hown.1, ?_⟩, hne⟩
    rcases hown.2 with h0 | ⟨g, cap, cur, fz, hv, hg, hh, r⟩
    · exact .inl h0
    · exact .inr ⟨g, cap, cur, fz, hv, hg, (ne g _ _ _ hh (by decide) (by decide)).trans hh, r⟩
  exact ⟨h.1.elim (fun x => .inl (key _ x)) (fun x => .inr (key _ x)), h.2⟩
theorem BldU.lo {w : World} {base b : Nat} {l : Reply.B} (h : BldU w base b l) : base ≤ b ∧ ∃ cs m, w.heap[b]? = some (.cells cs 61 m) := by
  rcases h.1 with ⟨hB, v, hb, _⟩ | ⟨hB, v, hb, _⟩
  · exact ⟨hB, _, _, hb⟩
  · exact ⟨hB, _, _, hb⟩
theorem FrX.after {C p : Nat} {w w' w'' : World} (h : FrX C p w w') (k : Below w.heap.size w' w'') : FrX C p w w'' :=
  ⟨k.os.trans h.os, k.tape.trans h.tape, k.output.trans h.output, Nat.le_trans h.size k.size, fun i hi hn hf => (k.block i hi).trans (h.block i hi hn hf)⟩
theorem textXU (base b : Nat) (l : Reply.B) (w : World) (h : BldU w base b l) (hBw : base ≤ w.heap.size) :
    Calls Tryz.prog 31 #[.pointer (some ⟨b, 0, none⟩)] w fun e w' => e = .returned (.string (S l)) ∧ BldU w' base b l ∧ Below base w w' ∧ BKept b w w' := by
  have e1 : Lib.byteCells (strB (l.map fun x : UInt8 => x.toNat)).data.toList = (l.map fun x : UInt8 => x.toNat).map u8v := byteCells_strB h.2
  have h1 := h.1
  rw [← e1] at h1
  refine (Tryz.Builder_String_any_k base b _ w h1 hBw).mono ?_
  rintro e w' ⟨rfl, hb, k, o⟩
  rw [e1] at hb
  refine ⟨by rw [← strB_map], ⟨hb, h.2⟩, k, k.size, fun g cs t mk hg h1 h2 => ?_⟩
  exact (o g _ hg (fun e => h1 (Option.some.inj e)) (fun c fz e => by injection e with _ e _; exact h2 e)).trans hg.symm
/-- The reader beside a builder that is written. -/
theorem RdX.kept {w0 w w' : World} {C p b : Nat} {s : Xml.St} {A : Option Addr} {c B : Nat} {l : Reply.B} (h : RdX w0 C w p s A c) (hb : BldU w B b l) (k : Below B w w') (kb : BKept b w w') (h0 : w0.heap.size ≤ B) : RdX w0 C w' p s A c := by
  obtain ⟨_, cs, m, hbk⟩ := hb.lo
  have keep : ∀ (g : Nat) (cs : Array Value) (t : TypeId) (mk : Nat × Nat), w.heap[g]? = some (.cells cs t mk) → t ≠ 61 → t ≠ 5 → w'.heap[g]? = w.heap[g]? := fun g cs t mk hg h1 h2 => kb.2 g cs t mk hg (fun e => by
    subst e
    have e := hg.symm.trans hbk
    injection e with e
    injection e with _ e _
    exact h1 e) h2
  refine ⟨h.env, h.l0, h.lC, h.bel.trans (k.mono h0), Nat.le_trans h.sz k.size, (keep p _ _ _ h.blk (by decide) (by decide)).trans h.blk, h.row.1, ?_⟩
  rcases h.row.2 with h1 | ⟨g, cap, cur, hv, hg, hh, r⟩
  · exact .inl h1
  · exact .inr ⟨g, cap, cur, hv, hg, (keep g _ _ _ hh (by decide) (by decide)).trans hh, r⟩
/-- A reader and a builder of a call that began in w. -/
structure TxR (w0 : World) (C : Nat) (w : World) (p : Nat) (A : Option Addr) (c b : Nat) (s : Xml.St) (l : Reply.B) (wr : World) : Prop where
  rd : RdX w0 C wr p s A c
  bl : BldU wr w.heap.size b l
  fr : FrX C p w wr
  lo : w0.heap.size ≤ w.heap.size
section
variable {w0 w wr w' : World} {C p : Nat} {s s' : Xml.St} {A : Option Addr} {c b : Nat} {l l' : Reply.B}
theorem TxR.read (h : TxR w0 C w p A c b s l wr) (r : RdX w0 C w' p s' A c) (f : FrX C p wr w') : TxR w0 C w p A c b s' l w' := ⟨r, h.bl.frx h.rd.blk f, h.fr.trans f, h.lo⟩
theorem TxR.under (h : TxR w0 C w p A c b s l wr) (k : Below wr.heap.size wr w') : TxR w0 C w p A c b s l w' := h.read (h.rd.under k) (FrX.under k)
theorem TxR.say (h : TxR w0 C w p A c b s l wr) (h1 : BldU w' w.heap.size b l') (k : Below w.heap.size wr w') (kb : BKept b wr w') : TxR w0 C w p A c b s l' w' := ⟨h.rd.kept h.bl k kb h.lo, h1, h.fr.after k, h.lo⟩
theorem TxR.size (h : TxR w0 C w p A c b s l wr) : w.heap.size ≤ wr.heap.size := h.fr.size
/-- What a call ends with that tells a text. -/
def EndsS (w0 : World) (C p : Nat) (A : Option Addr) (c : Nat) (r : Xml.Res Reply.B) (e : Ending) (w' : World) : Prop := match r with
  | .bad n => e = .panicked [{ v := troubleX n, recovered := false }]
  | .ok l s' => e = .returned (.string (S l)) ∧ RdX w0 C w' p s' A c
theorem EndsS.bad {n : Nat} {r : Xml.Res Reply.B} (h : r = .bad n) (w' : World) : EndsS w0 C p A c r (.panicked [{ v := troubleX n, recovered := false }]) w' := by rw [h]; rfl
theorem EndsS.ok {r : Xml.Res Reply.B} (h : r = .ok l s) (k : RdX w0 C w' p s A c) : EndsS w0 C p A c r (.returned (.string (S l))) w' := by rw [h]; exact ⟨rfl, k⟩
/-- Between two rounds of text. -/
def TxI (w0 : World) (C : Nat) (w : World) (p : Nat) (A : Option Addr) (c b : Nat) (R : Xml.Res Reply.B) (wr : World) : Prop := ∃ s1 f1 l1, TxR w0 C w p A c b s1 l1 wr ∧ s1.rest.length < f1 ∧ l1.length + 4 * s1.rest.length ≤ 262144 ∧ R = Xml.text f1 s1 l1
end
end Go.Proofs.YteefjmdallpihaaGreatDoor
