/-
  wal: the contracts of Need, alive, write, flush.
-/
import Derived.Test.YtaoldopkehbhkaaWal3
namespace Go.Proofs.Ytaoldopkehbhkaa
open Go.RowKit Wal

/-- The blocks G' are those of G, or new since w. -/
def Grown (w : World) (G G' : List Nat) : Prop := ∀ x ∈ G', x ∈ G ∨ w.heap.size ≤ x
theorem Grown.refl (w : World) (G : List Nat) : Grown w G G := fun _ h => .inl h
theorem Grown.trans {w w1 : World} {G G1 G2 : List Nat} (h : Grown w G G1) (hs : w.heap.size ≤ w1.heap.size) (k : Grown w1 G1 G2) : Grown w G G2 := fun x hx => by
  rcases k x hx with h1 | h1
  · exact h x h1
  · exact .inr (Nat.le_trans hs h1)
theorem Grown.append {w : World} {G G' F F' : List Nat} (h : Grown w G G') (k : Grown w F F') : Grown w (G ++ F) (G' ++ F') := fun x hx => by
  rcases List.mem_append.1 hx with hx | hx
  · rcases h x hx with h | h
    · exact .inl (List.mem_append.2 (.inl h))
    · exact .inr h
  · rcases k x hx with h | h
    · exact .inl (List.mem_append.2 (.inr h))
    · exact .inr h

/-- What a call on a log leaves: a log like s' beside a disk like m', on their own blocks or new ones, and all else as it was. -/
def LTurned (w : World) (b : Nat) (G : List Nat) (d : Nat) (F : List Nat) (w' : World) (s' : LS) (m' : Dsk.DM) : Prop :=
  ∃ G' F', LD w' b G' s' d F' m' ∧ Only (G ++ F) w w' ∧ Grown w G G' ∧ Grown w F F'

section
variable {w w' w1 : World} {b d : Nat} {vn : Value} {s s' : LS} {G F G1 F1 H : List Nat} {m m' : Dsk.DM}
theorem LTurned.refl (h : LD w b G s d F m) : LTurned w b G d F w s m := ⟨G, F, h, Only.refl _ _, Grown.refl _ _, Grown.refl _ _⟩
theorem LTurned.trans (h : Only (G ++ F) w w1) (hG : Grown w G G1) (hF : Grown w F F1) (k : LTurned w1 b G1 d F1 w' s' m') : LTurned w b G d F w' s' m' := by
  obtain ⟨G2, F2, h1, h2, h3, h4⟩ := k
  exact ⟨G2, F2, h1, h.trans h2 (hG.append hF), hG.trans h.size h3, hF.trans h.size h4⟩
/-- The dead mark is set. -/
theorem LogIs.mark (h : LogIs w b d vn s) (x : Bool) : LogIs (w.setCell ⟨b, 7, none⟩ (.bool x)) b d vn { s with dead := x } := by
  have hc : ∀ i, i ≠ 7 → (w.setCell ⟨b, 7, none⟩ (.bool x)).cell? ⟨b, i, none⟩ = w.cell? ⟨b, i, none⟩ := fun i hi => World.cell?_setCell_other _ _ _ _ (fun e => hi (congrArg Addr.off e).symm)
  have ho : Only [b] w (w.setCell ⟨b, 7, none⟩ (.bool x)) := (Only.refl _ w).setCell (.inl (by simp)) _
  exact ⟨(hc 0 (by omega)).trans h.c0, (hc 1 (by omega)).trans h.c1, (hc 2 (by omega)).trans h.c2, (hc 3 (by omega)).trans h.c3, (hc 4 (by omega)).trans h.c4, (hc 5 (by omega)).trans h.c5, (hc 6 (by omega)).trans h.c6,
    World.cell?_setCell_same _ _ _ h.c7, h.tab.far (by rw [World.size_setCell]; exact Nat.le_refl _) (fun i hi => hc i (by omega)) (fun i => World.frozen?_setCell _ _ _ _), h.row.only ho (fun g hg => by simpa using h.far g hg), h.far⟩
theorem LD.mark (h : LD w b G s d F m) (x : Bool) : LTurned w b G d F (w.setCell ⟨b, 7, none⟩ (.bool x)) { s with dead := x } m := by
  have hb := h.mem
  have hbF := h.apart b hb
  have ho : Only [b] w (w.setCell ⟨b, 7, none⟩ (.bool x)) := (Only.refl _ w).setCell (.inl (by simp)) _
  have hy1 : ∀ y ∈ F, y ∉ [b] := fun y hy e => by
    obtain rfl : y = b := by simpa using e
    exact hbF hy
  have hy2 : ∀ y ∈ [b], y ∈ G ++ F ∨ w.heap.size ≤ y := fun y hy => by
    obtain rfl : y = b := by simpa using hy
    exact .inl (List.mem_append.2 (.inl hb))
  refine ⟨G, F, ⟨?_, h.disk.only ho hy1, h.apart⟩, ho.mono hy2, Grown.refl _ _, Grown.refl _ _⟩
  obtain ⟨vn, hl, rfl⟩ := h.log
  exact ⟨vn, hl.mark x, rfl⟩
theorem LD.same (h : LD w b G s d F m) {x : Bool} (hx : s.dead = x) : LD w b G { s with dead := x } d F m := by
  subst hx; exact h
/-- The disk alone was called. -/
theorem LD.turned (h : LD w b G s d F m) (t : Turned w d F w' m') : ∃ F', LD w' b G s d F' m' ∧ Only (G ++ F) w w' ∧ Grown w F F' := by
  obtain ⟨F', h1, h2, h3⟩ := t
  have ha : ∀ x ∈ G, x ∉ F := h.apart
  refine ⟨F', ⟨?_, h1, fun x hx hf => ?_⟩, h2.mono (fun x hx => .inl (List.mem_append.2 (.inr hx))), h3⟩
  · obtain ⟨vn, hl, rfl⟩ := h.log
    exact ⟨vn, hl.only h2 ha, rfl⟩
  · rcases h3 x hf with h4 | h4
    · exact ha x hx h4
    · have := h.glt x hx; omega
theorem LD.cells (h : LD w b G s d F m) : w.cell? ⟨b, 0, none⟩ = some (.pointer (some ⟨d, 0, none⟩)) ∧ w.cell? ⟨b, 7, none⟩ = some (.bool s.dead) ∧ w.frozen? ⟨b, 7, none⟩ = false := by
  obtain ⟨vn, hl, _⟩ := h.log
  exact ⟨hl.c0, hl.c7, hl.tab.fr 7⟩
end

def aliveErr (s : LS) (m : Dsk.DM) : Int := if s.dead || m.dead then 10 else 0
theorem writeErr_range (m : Dsk.DM) (i : Int) (n : Nat) : m.writeErr i n = 0 ∨ m.writeErr i n = 1 ∨ m.writeErr i n = 10 := by
  unfold Dsk.DM.writeErr
  split
  · simp
  · split
    · simp
    · split <;> simp
theorem flushErr_range (m : Dsk.DM) : m.flushErr = 0 ∨ m.flushErr = 10 := by
  unfold Dsk.DM.flushErr
  split
  · simp
  · split <;> simp

set_option maxHeartbeats 400000 in
theorem lwrite_any (w : World) (b d : Nat) (s : LS) (G F : List Nat) (m : Dsk.DM) (i : Int) (A : Option Addr) (n c : Nat) (l : List Nat) (h : LD w b G s d F m) (hl : Bts w A n l) (hn : n ≤ 9223372036854775807) (hA : 0 < n → ∀ x, A = some x → x.block ∉ F) (hw : m.wait.length ≤ 5800000000000) :
    Calls Try.prog 56 #[.pointer (some ⟨b, 0, none⟩), .int .i64 i, .slice A n c] w fun e w' => e = .returned (.int .i64 (m.writeErr i n)) ∧ LTurned w b G d F w' { s with dead := m.writeErr i n != 0 } (m.write i l) := by
  obtain ⟨c0, _, _⟩ := h.cells
  have H := Lib.hid h
  have W := Lib.hid (write_any w d F m i A n c l h.disk hl hn hA hw)
  have R := Lib.hid (writeErr_range m i n)
  clear h hl hA hw
  go_enter Try.func56, Try.ntmps56
  go_wp2_with fail
  refine W.out.mono ?_
  rintro e w1 ⟨rfl, ht⟩
  obtain ⟨F1, h1, h2, h3⟩ := H.out.turned ht
  obtain ⟨d0, d7, g7⟩ := h1.cells
  have H1 := Lib.hid h1
  have O1 := Lib.hid h2
  have N1 := Lib.hid h3
  clear ht h1 h2 h3 c0 H W
  rcases R.out with e | e | e
  all_goals
    rw [e]
    have E := Lib.hid e
    clear R e
    have M := Lib.hid (fun x => H1.out.mark x)
    go_wp2_with fail
    go_ret
    rw [E.out]
    exact ⟨rfl, LTurned.trans O1.out (Grown.refl _ _) N1.out (M.out _)⟩
theorem lflush_any (w : World) (b d : Nat) (s : LS) (G F : List Nat) (m : Dsk.DM) (h : LD w b G s d F m) (hw : m.wait.length ≤ 5800000000000) :
    Calls Try.prog 58 #[.pointer (some ⟨b, 0, none⟩)] w fun e w' => e = .returned (.int .i64 m.flushErr) ∧ LTurned w b G d F w' { s with dead := m.flushErr != 0 } m.flush := by
  obtain ⟨c0, _, _⟩ := h.cells
  have H := Lib.hid h
  have W := Lib.hid (flush_any w d F m h.disk hw)
  have R := Lib.hid (flushErr_range m)
  clear h hw
  go_enter Try.func58, Try.ntmps58
  go_wp2_with fail
  refine W.out.mono ?_
  rintro e w1 ⟨rfl, ht⟩
  obtain ⟨F1, h1, h2, h3⟩ := H.out.turned ht
  obtain ⟨d0, d7, g7⟩ := h1.cells
  have H1 := Lib.hid h1
  have O1 := Lib.hid h2
  have N1 := Lib.hid h3
  clear ht h1 h2 h3 c0 H W
  rcases R.out with e | e
  all_goals
    rw [e]
    have E := Lib.hid e
    clear R e
    have M := Lib.hid (fun x => H1.out.mark x)
    go_wp2_with fail
    go_ret
    rw [E.out]
    exact ⟨rfl, LTurned.trans O1.out (Grown.refl _ _) N1.out (M.out _)⟩
end Go.Proofs.Ytaoldopkehbhkaa
