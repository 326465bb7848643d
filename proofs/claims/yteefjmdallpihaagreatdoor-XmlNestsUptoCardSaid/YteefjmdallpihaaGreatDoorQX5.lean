/-
  xml: the end of an element: the namespaces are cut, the answer is laid in its place.
-/
import Derived.Test.YteefjmdallpihaaGreatDoorQX4
import Derived.Deep.MidRow
namespace Go.Proofs.YteefjmdallpihaaGreatDoor
open Go.RowKit Reply Go.Shelf

theorem resX {P : Program} {f : Func} (tm : Array Value) (w : World) (j T : Nat) (v : Value) (p : Addr) (hf : f.results = #[.cell j T]) (h : tm.getD j undef = .pointer (some p)) (lv : (loadVar T p).run P w = .ok v w) : (results f tm).run P w = .ok v w := by
  unfold results
  rw [hf]
  rw [Array.getD_eq_getD_getElem?] at h
  simp [h, asAddr, lv]
theorem load_nd {w : World} {b : Nat} {cs : Array Value} (h : Held w b 28 cs) (hs : cs.size = 5) : (loadVar 28 ⟨b, 0, none⟩).run Tryz.prog w = .ok (.agg cs) w := by
  have lv := run_loadVar_mid (P := Tryz.prog) w b 0 28 cs.toList _ (fun j v hv => by rw [Nat.zero_add, h.cell]; simpa using hv) Tryz.underlying28 rfl (by
    obtain ⟨i, hi, hz, hsize, hby⟩ := info_parts infoHN
    rw [(zero_of_info (by rw [hi]; exact congrArg some (Prod.ext hz hsize))).2, Array.length_toList, hs])
  simpa using lv
section
variable {w0 w : World} {C p : Nat} {s : Xml.St} {A : Option Addr} {c : Nat}
theorem RdX.cutTo (h : RdX w0 C w p s A c) (n : Nat) (hn : n ≤ s.spaces.length) : RdX w0 C (w.setCell ⟨p, 1, none⟩ (.slice A n c)) p { s with spaces := s.spaces.take n } A c := by
  have e : (s.spaces.take n).length = n := by rw [List.length_take]; omega
  refine ⟨h.env, h.l0, h.lC, h.bel.setCell (p := ⟨p, 1, none⟩) h.l0 _, Nat.le_trans h.sz (by simp [World.setCell]), ?_, ?_⟩
  · show Held _ _ _ #[.string (S s.rest), .slice A (s.spaces.take n).length c]
    rw [e]
    exact h.blk.set_ 1 _
  · show OwnHS _ _ (.slice A (s.spaces.take n).length c) (s.spaces.take n)
    rw [e]
    refine (setX_only p 1 w _).row (h.row.cut hn) (fun g hg => h.far g ?_)
    cases A <;> exact hg
theorem RdX.past {b t : Nat} {cs : Array Value} (h : RdX w0 C w p s A c) (hb : Held w b t cs) (h1 : t ≠ 56) (h2 : 53 ≠ t) (h0 : w0.heap.size ≤ b) (i : Nat) (u : Value) : RdX w0 C (w.setCell ⟨b, i, none⟩ u) p s A c :=
  ⟨h.env, h.l0, h.lC, h.bel.setCell (p := ⟨b, i, none⟩) h0 _, Nat.le_trans h.sz (by simp [World.setCell]), (Below.heap_setCell w ⟨b, i, none⟩ u p (Held.ne_ hb h.blk h1).symm).trans h.blk,
    (setX_only b i w u).row h.row (fun g hg hm => Held.ne_row hb h.row h2 g hg (by simpa using hm))⟩
theorem FrX.past {w' : World} (h : FrX C p w w') {b : Nat} (hb : w.heap.size ≤ b) (i : Nat) (u : Value) : FrX C p w (w'.setCell ⟨b, i, none⟩ u) := h.after ((Below.refl _ _).setCell (p := ⟨b, i, none⟩) hb u)
/-- An element's call between two steps: the reader, and the place of its answer. -/
structure ElI (w0 : World) (C : Nat) (w : World) (p : Nat) (b2 : Nat) (s1 : Xml.St) (wr : World) : Prop where
  rd : ∃ A c, RdX w0 C wr p s1 A c
  fr : FrX C p w wr
  lo : w.heap.size ≤ b2
  ans : Held wr b2 28 #[.string ⟨#[]⟩, .string ⟨#[]⟩, .string ⟨#[]⟩, .slice none 0 0, .slice none 0 0]
theorem ElI.read {b2 : Nat} {s1 s2 : Xml.St} {wr w' : World} {A1 : Option Addr} {c1 : Nat} (h : ElI w0 C w p b2 s1 wr) (r : RdX w0 C w' p s2 A1 c1) (f : FrX C p wr w') : ElI w0 C w p b2 s2 w' :=
  ⟨⟨A1, c1, r⟩, h.fr.trans f, h.lo, f.held h.ans (by
    obtain ⟨A2, c2, q⟩ := h.rd
    exact Held.ne_ h.ans q.blk (by decide)) (by decide)⟩
theorem ElI.under {b2 : Nat} {s1 : Xml.St} {wr w' : World} (h : ElI w0 C w p b2 s1 wr) (k : Below wr.heap.size wr w') : ElI w0 C w p b2 s1 w' := by
  obtain ⟨A2, c2, q⟩ := h.rd
  exact h.read (q.under k) (FrX.under k)
/-- The world in which an element's call ends. -/
def endW (w9 : World) (p b n0 : Nat) (A : Option Addr) (c : Nat) (u0 u1 u2 u3 u4 : Value) : World :=
  (((((w9.setCell ⟨p, 1, none⟩ (.slice A n0 c)).setCell ⟨b, 0, none⟩ u0).setCell ⟨b, 1, none⟩ u1).setCell ⟨b, 2, none⟩ u2).setCell ⟨b, 3, none⟩ u3).setCell ⟨b, 4, none⟩ u4
theorem elem_end {w9 : World} (hp : p < w.heap.size) (hl : w0.heap.size ≤ w.heap.size) (T : ElI w0 C w p w.heap.size s w9) (h : RdX w0 C w9 p s A c) (n0 : Nat) (hn : n0 ≤ s.spaces.length) (d : Xml.Nd) (m : NC) (hN : NdV w9 (fun k => w.heap.size < k) d m) (u0 u1 u2 u3 u4 : Value) :
    FrX C p w (endW w9 p w.heap.size n0 A c u0 u1 u2 u3 u4) ∧ Held (endW w9 p w.heap.size n0 A c u0 u1 u2 u3 u4) w.heap.size 28 #[u0, u1, u2, u3, u4] ∧ NdV (endW w9 p w.heap.size n0 A c u0 u1 u2 u3 u4) (fun k => w.heap.size ≤ k) d m ∧ RdX w0 C (endW w9 p w.heap.size n0 A c u0 u1 u2 u3 u4) p { s with spaces := s.spaces.take n0 } A c := by
  have np : w.heap.size ≠ p := by omega
  have r1 := h.cutTo n0 hn
  have f1 := T.fr.set_ 1 (.slice A n0 c)
  have a1 : Held (w9.setCell ⟨p, 1, none⟩ (.slice A n0 c)) w.heap.size 28 _ := (Below.heap_setCell w9 ⟨p, 1, none⟩ (.slice A n0 c) w.heap.size np).trans T.ans
  have d1 := NdV.keep (KeepN.set (b := p) (i := 1) (u := .slice A n0 c) (w := w9) (P := fun k => w.heap.size < k) (Q := fun k => w.heap.size < k) (fun k hk => ⟨by omega, hk⟩)) d m hN
  have step : ∀ {wx : World} {i : Nat} {u : Value}, NdV wx (fun k => w.heap.size < k) d m → NdV (wx.setCell ⟨w.heap.size, i, none⟩ u) (fun k => w.heap.size < k) d m := fun {wx i u} hx => NdV.keep (KeepN.set (fun k hk => ⟨by omega, hk⟩)) d m hx
  have r2 := r1.past a1 (by decide) (by decide) hl 0 u0
  have f2 := f1.past (Nat.le_refl _) 0 u0
  have a2 := a1.set_ 0 u0
  have r3 := r2.past a2 (by decide) (by decide) hl 1 u1
  have f3 := f2.past (Nat.le_refl _) 1 u1
  have a3 := a2.set_ 1 u1
  have r4 := r3.past a3 (by decide) (by decide) hl 2 u2
  have f4 := f3.past (Nat.le_refl _) 2 u2
  have a4 := a3.set_ 2 u2
  have r5 := r4.past a4 (by decide) (by decide) hl 3 u3
  have f5 := f4.past (Nat.le_refl _) 3 u3
  have a5 := a4.set_ 3 u3
  have r6 := r5.past a5 (by decide) (by decide) hl 4 u4
  have f6 := f5.past (Nat.le_refl _) 4 u4
  have a6 := a5.set_ 4 u4
  refine ⟨f6, a6, ?_, r6⟩
  refine NdV.keep (KeepN.set (b := w.heap.size) (P := fun k => w.heap.size < k) (fun k hk => ⟨by omega, by omega⟩)) d m (step (step (step (step d1))))
end
end Go.Proofs.YteefjmdallpihaaGreatDoor
