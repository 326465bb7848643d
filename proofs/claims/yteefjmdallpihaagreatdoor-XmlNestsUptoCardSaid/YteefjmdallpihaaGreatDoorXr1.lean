/-
  xml: the reader in memory; what a call of its own leaves of the others' blocks; what is given up with.
-/
import Derived.Test.YteefjmdallpihaaGreatDoorXr0
import Derived.Defers
import Derived.Shelf.Unicode.DecodeSlow
import Derived.Recover
namespace Go.Proofs.YteefjmdallpihaaGreatDoor
open Go.RowKit Reply

/-- What the package-level variables of the library hold, as far as the walks ask. -/
structure EnvX (w : World) : Prop where
  mx : ∃ m, w.cell? ⟨5, 0, none⟩ = some (.int .i64 m)
  tabs : Lib.Utf8Tabs 0 1 w
  syn : ∃ ev, w.cell? ⟨6, 0, none⟩ = some ev ∧ (ev = .nilIface ∨ ∃ te pe, ev = .iface te pe)
  rng : ∃ ev, w.cell? ⟨7, 0, none⟩ = some ev ∧ (ev = .nilIface ∨ ∃ te pe, ev = .iface te pe)
  fold : ∀ x y : Nat, (x, y) ∈ [(120, 88), (88, 120), (109, 77), (77, 109), (108, 76), (76, 108)] → w.cell? ⟨2, x, none⟩ = some (.int .u16 (y : Int))
theorem EnvX.below {w w' : World} (h : EnvX w) (k : Below w.heap.size w w') : EnvX w' := by
  have c : ∀ {p : Addr} {v : Value}, w.cell? p = some v → w'.cell? p = some v := fun {p v} hv => (k.cell (p := p) (block_lt hv)).trans hv
  obtain ⟨m, h1⟩ := h.mx
  obtain ⟨e1, h2, h3⟩ := h.syn
  obtain ⟨e2, h4, h5⟩ := h.rng
  exact ⟨⟨m, c h1⟩, ⟨fun i hi => c (h.tabs.1 i hi), fun i hi => ⟨c (h.tabs.2 i hi).1, c (h.tabs.2 i hi).2⟩⟩, ⟨e1, c h2, h3⟩, ⟨e2, c h4, h5⟩, fun x y hx => c (h.fold x y hx)⟩
/-- What is left as it was: all blocks but p, and but rows of namespaces from C on. -/
structure FrX (C p : Nat) (w w' : World) : Prop where
  os : w'.os = w.os
  tape : w'.tape = w.tape
  output : w'.output = w.output
  size : w.heap.size ≤ w'.heap.size
  block : ∀ k, k < w.heap.size → k ≠ p → (∀ cs t m, w.heap[k]? = some (.cells cs t m) → ¬ (C ≤ k ∧ t = 53)) → w'.heap[k]? = w.heap[k]?
section
variable {C p : Nat} {w w' w'' : World}
theorem FrX.refl (C p : Nat) (w : World) : FrX C p w w := ⟨rfl, rfl, rfl, Nat.le_refl _, fun _ _ _ _ => rfl⟩
theorem FrX.trans (h : FrX C p w w') (k : FrX C p w' w'') : FrX C p w w'' := ⟨k.os.trans h.os, k.tape.trans h.tape, k.output.trans h.output, Nat.le_trans h.size k.size, fun i hi hn hf => by
  have e := h.block i hi hn hf
  exact (k.block i (Nat.lt_of_lt_of_le hi h.size) hn (fun cs t m hx => hf cs t m (by rw [← e]; exact hx))).trans e⟩
theorem FrX.under (h : Below w.heap.size w w') : FrX C p w w' := ⟨h.os, h.tape, h.output, h.size, fun i hi _ _ => h.block i hi⟩
theorem FrX.set_ (h : FrX C p w w') (i : Nat) (u : Value) : FrX C p w (w'.setCell ⟨p, i, none⟩ u) :=
  h.trans ⟨rfl, rfl, rfl, by simp [World.setCell], fun k _ hn _ => Below.heap_setCell w' ⟨p, i, none⟩ u k hn⟩
theorem FrX.held {q : Nat} {t : TypeId} {cs : Array Value} (h : FrX C p w w') (k : Held w q t cs) (h1 : q ≠ p) (h2 : t ≠ 53) : Held w' q t cs :=
  (h.block q k.lt h1 (fun cs' t' m' hh => by
    have e := k.symm.trans hh
    injection e with e
    injection e with _ e2 _
    subst e2
    exact fun e => h2 e.2)).trans k
theorem FrX.row {base : Nat} {e : TypeId} {size : Nat} {v : Value} {m : Nat} {xs : List Value} (h : FrX C p w w') (ho : w.ownsRow base e size v m xs) (h1 : ∀ g, v.ownBlock = some g → g ≠ p) (h2 : e ≠ 53) : w'.ownsRow base e size v m xs :=
  ⟨ho.1, ho.2.imp id fun ⟨g, cap, cur, a1, a2, a3, r⟩ => ⟨g, cap, cur, a1, a2, h.held (t := e) a3 (h1 g (by rw [a1]; rfl)) h2, r⟩⟩
theorem FrX.below (h : FrX C p w w') {B : Nat} (hB : B ≤ w.heap.size) (h1 : B ≤ C) (h2 : B ≤ p) : Below B w w' := ⟨h.os, h.tape, h.output, h.size, fun k hk => h.block k (by omega) (by omega) (fun _ _ _ _ e => by omega)⟩
theorem FrX.grown {v : Value} {l : List (Reply.B × Reply.B)} (h : FrX C p w w') (ho : OwnHS w' C v l) (hg : w'.grownBy w'' v.ownBlock) : FrX C p w w'' :=
  h.trans ⟨hg.os, hg.tape, hg.output, hg.size, fun k hk _ hf => hg.block k hk (fun e => by
    rcases ho.2 with ⟨rfl, _⟩ | ⟨g, cap, cur, rfl, hg2, hh, _⟩
    · cases e
    · have : k = g := by simpa [Value.ownBlock] using e
      subst this
      exact hf _ _ _ hh ⟨hg2, rfl⟩)⟩
end
/-- The reader in block p, with what isn't read yet and the namespaces that are declared, their row of its own from C on; within a call that began in w0. -/
structure RdX (w0 : World) (C : Nat) (w : World) (p : Nat) (s : Xml.St) (A : Option Addr) (c : Nat) : Prop where
  env : EnvX w0
  l0 : w0.heap.size ≤ p
  lC : w0.heap.size ≤ C
  bel : Below w0.heap.size w0 w
  sz : C ≤ w.heap.size
  blk : Held w p 56 #[.string (S s.rest), .slice A s.spaces.length c]
  row : OwnHS w C (.slice A s.spaces.length c) s.spaces
section
variable {w0 w w' : World} {C p : Nat} {s : Xml.St} {A : Option Addr} {c : Nat}
theorem RdX.under (h : RdX w0 C w p s A c) (k : Below w.heap.size w w') : RdX w0 C w' p s A c :=
  ⟨h.env, h.l0, h.lC, h.bel.trans (k.mono h.bel.size), Nat.le_trans h.sz k.size, Held.below h.blk k h.blk.lt, h.row.below k⟩
theorem RdX.envw (h : RdX w0 C w p s A c) : EnvX w := h.env.below h.bel
theorem RdX.far (h : RdX w0 C w p s A c) : ∀ g, (Value.slice A s.spaces.length c).ownBlock = some g → g ∉ [p] := fun g hg hm => Held.ne_row h.blk h.row (by decide) g hg (by simpa using hm)
theorem setX_only (p i : Nat) (w : World) (u : Value) : Only [p] w (w.setCell ⟨p, i, none⟩ u) := (Only.refl [p] w).setCell (p := ⟨p, i, none⟩) (.inl (by simp)) u
/-- What is left to read is another text. -/
theorem RdX.rest_ (h : RdX w0 C w p s A c) (l : Reply.B) : RdX w0 C (w.setCell ⟨p, 0, none⟩ (.string (S l))) p { s with rest := l } A c :=
  ⟨h.env, h.l0, h.lC, h.bel.setCell (p := ⟨p, 0, none⟩) h.l0 _, Nat.le_trans h.sz (by simp [World.setCell]), h.blk.set_ 0 _, (setX_only p 0 w _).row h.row h.far⟩
end
/-- What a piece of the reading ends with. -/
def troubleX (err : Int) : Value := .iface 50 (.agg #[.int .i64 err])
/-- A call of the reader's: it gives up with an error, or it answers, and the reader is behind. -/
def Ends {α : Type} (w0 : World) (C : Nat) (w : World) (p : Nat) (r : Xml.Res α) (val : α → World → Value → Prop) (e : Ending) (w' : World) : Prop :=
  FrX C p w w' ∧ match r with
    | .bad n => e = .panicked [{ v := troubleX n, recovered := false }]
    | .ok a s => ∃ v, e = .returned v ∧ val a w' v ∧ ∃ A c, RdX w0 C w' p s A c
theorem demand_ok (w : World) (err : Int) : Calls Tryz.prog 24 #[.bool true, .int .i64 err] w fun e w' => e = .returned (.tuple #[]) ∧ w = w' := by
  go_enter Tryz.func24, Tryz.ntmps24
  go_wp2
  go_end0
  exact ⟨rfl, rfl⟩
theorem demand_bad (w : World) (err : Int) : Calls Tryz.prog 24 #[.bool false, .int .i64 err] w fun e w' => e = .panicked [{ v := troubleX err, recovered := false }] ∧ w = w' := by
  go_enter Tryz.func24, Tryz.ntmps24
  go_wp2
  exact ⟨rfl, rfl, rfl⟩
end Go.Proofs.YteefjmdallpihaaGreatDoor
