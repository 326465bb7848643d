/-
  reply: Write.
-/
import Derived.Test.YtdojchamdcokiaaDoorR14
namespace Go.Proofs.YtdojchamdcokiaaDoor
open Go.RowKit Reply

/-- Texts in a block of their own. -/
def PartsAt (w : World) (A : Option Addr) (ps : List B) : Prop := 0 < ps.length → ∃ (g : Nat) (cs : Array Value) (mk : Nat × Nat), A = some ⟨g, 0, none⟩ ∧ w.heap[g]? = some (.cells cs 9 mk) ∧ ∀ (i : Nat) (p : B), ps[i]? = some p → cs[i]? = some (Value.string (S p))
theorem BldU.ty {w : World} {base b : Nat} {l : B} (h : BldU w base b l) : base ≤ b ∧ ∃ cs mk, w.heap[b]? = some (.cells cs 43 mk) := by
  rcases h.1 with h | h
  · obtain ⟨hB, v, hbk, _⟩ := h
    exact ⟨hB, _, _, hbk⟩
  · obtain ⟨hB, v, hbk, _⟩ := h
    exact ⟨hB, _, _, hbk⟩
theorem PartsAt.kept {w w' : World} {A : Option Addr} {ps : List B} {base b : Nat} {l : B} (h : PartsAt w A ps) (hb : BldU w base b l) (k : BKept b w w') : PartsAt w' A ps := fun hp => by
  obtain ⟨g, cs, mk, e, hg, hc⟩ := h hp
  obtain ⟨_, cs', mk', hb'⟩ := hb.ty
  have hne : g ≠ b := by
    rintro rfl
    rw [hg] at hb'
    injection hb' with hb'
    injection hb' with _ ht
    exact absurd ht (by decide)
  exact ⟨g, cs, mk, e, (k.2 g cs _ mk hg hne (by decide)).trans hg, hc⟩
theorem PartsAt.at_ {w : World} {A : Option Addr} {ps : List B} (h : PartsAt w A ps) {k : Nat} (hk : k < ps.length) : ∃ g, A = some ⟨g, 0, none⟩ ∧ w.cell? ⟨g, k, none⟩ = some (.string (S (ps[k]'hk))) := by
  obtain ⟨g, cs, mk, e, hg, hc⟩ := h (by omega)
  exact ⟨g, e, by rw [cell_of_row w g k cs _ mk hg]; exact hc k _ (List.getElem?_eq_getElem hk)⟩
theorem parts_new (w : World) (cs : Array Value) (ps : List B) (h : ∀ (i : Nat) (p : B), ps[i]? = some p → cs[i]? = some (Value.string (S p))) : PartsAt (w.alloc (.cells cs 9)) (some ⟨w.heap.size, 0, none⟩) ps := fun _ => ⟨_, cs, _, rfl, heap_alloc_new w _, h⟩
theorem parts_one (w : World) {x : ByteArray} {p : B} (hx : x = S p) : PartsAt (w.alloc (.cells #[.string x] 9)) (some ⟨w.heap.size, 0, none⟩) [p] := parts_new w _ _ (fun i q hi => by
  match i, hi with
  | 0, hi => simp at hi; subst hi; simp [hx])
theorem parts_two (w : World) {x y : ByteArray} {p q : B} (hx : x = S p) (hy : y = S q) : PartsAt (w.alloc (.cells #[.string x, .string y] 9)) (some ⟨w.heap.size, 0, none⟩) [p, q] := parts_new w _ _ (fun i r hi => by
  match i, hi with
  | 0, hi => simp at hi; subst hi; simp [hx]
  | 1, hi => simp at hi; subst hi; simp [hy])
theorem parts_four (w : World) {x y z u : ByteArray} {p q r s : B} (hx : x = S p) (hy : y = S q) (hz : z = S r) (hu : u = S s) : PartsAt (w.alloc (.cells #[.string x, .string y, .string z, .string u] 9)) (some ⟨w.heap.size, 0, none⟩) [p, q, r, s] := parts_new w _ _ (fun i o hi => by
  match i, hi with
  | 0, hi => simp at hi; subst hi; simp [hx]
  | 1, hi => simp at hi; subst hi; simp [hy]
  | 2, hi => simp at hi; subst hi; simp [hz]
  | 3, hi => simp at hi; subst hi; simp [hu])
theorem flat_next {ps : List B} {k : Nat} (hk : k < ps.length) : (ps.take (k + 1)).flatten = (ps.take k).flatten ++ ps[k]'hk := by
  rw [List.take_add_one, List.getElem?_eq_getElem hk, List.flatten_append]
  simp
theorem flat_le {ps : List B} {k : Nat} (hk : k < ps.length) : (ps.take k).flatten.length + (ps[k]'hk).length ≤ ps.flatten.length := by
  have e : ps.flatten = (ps.take (k + 1)).flatten ++ (ps.drop (k + 1)).flatten := by rw [← List.flatten_append, List.take_append_drop]
  rw [e, flat_next hk]
  simp only [List.length_append]
  omega
set_option maxRecDepth 100000 in
set_option maxHeartbeats 8000000 in
theorem add_any (w : World) (base b : Nat) (l : B) (A : Option Addr) (n c : Nat) (ps : List B) (hn : ps.length = n) (h : BldU w base b l) (hp : PartsAt w A ps) (hlen : l.length + ps.flatten.length ≤ 140737488355000) (hBw : base ≤ w.heap.size) (hn8 : n ≤ 8) :
    Calls Tryd.prog 11 #[.slice A n c, .pointer (some ⟨b, 0, none⟩)] w fun e w' => e = .returned (.tuple #[]) ∧ BldU w' base b (l ++ ps.flatten) ∧ Below base w w' := by
  have HB := Lib.hid h
  have HP := Lib.hid hp
  have HN := Lib.hid hn
  have HL := Lib.hid hlen
  have HW := Lib.hid hBw
  clear h hp hn hlen hBw
  go_enter Tryd.func11, Tryd.ntmps11
  go_wp2
  go_loopw [4, 7] (fun _ i wr => ∃ k : Nat, k ≤ n ∧ i = .int .i64 k ∧ Hid (BldU wr base b (l ++ (ps.take k).flatten)) ∧ Hid (Below base w wr ∧ BKept b w wr)) (fun _ i _ => n - (intOf i).toNat)
  case atStart => exact ⟨0, by omega, rfl, by show BldU _ _ _ _; simpa using HB.out, Below.refl _ _, BKept.refl _ _⟩
  case round =>
    obtain ⟨k, hk, rfl, G1, G2⟩ := hrel
    by_cases hlt : k < n
    · have hkl : Hid (k < ps.length) := by show k < _; rw [HN.out]; exact hlt
      obtain ⟨p, hpp⟩ : ∃ p, p = ps[k]'hkl.out := ⟨_, rfl⟩
      obtain ⟨g, rfl, a0⟩ := (HP.out.kept HB.out G2.out.2).at_ hkl.out
      rw [← hpp] at a0
      have kz : (k : Int) < (n : Int) := by omega
      have FN : Hid (l ++ (ps.take (k + 1)).flatten = l ++ (ps.take k).flatten ++ p) := by show _ = _; rw [flat_next hkl.out, ← hpp, List.append_assoc]
      have WS := Lib.hid (wstringU base b (l ++ (ps.take k).flatten) p wr G1.out (by have := flat_le hkl.out; have := HL.out; rw [hpp, List.length_append]; omega) (Nat.le_trans HW.out G2.out.1.size))
      clear hpp
      go_wp2_with fail
      refine WS.out.mono ?_
      rintro e w2 ⟨⟨v, rfl⟩, h1, h2, h3⟩
      have N1 : Hid (BldU w2 base b (l ++ (ps.take (k + 1)).flatten)) := by show BldU _ _ _ _; rw [FN.out]; exact h1
      have N2 : Hid (Below base w w2 ∧ BKept b w w2) := ⟨G2.out.1.trans h2, G2.out.2.trans h3⟩
      clear h1 h2 h3 WS
      go_wp2_with fail
      go_roundw
      case rel => exact ⟨k + 1, by omega, by go_num, N1, N2⟩
      case measure => simp [intOf]; omega
    · obtain rfl : k = n := by omega
      have N1 : Hid (BldU wr base b (l ++ ps.flatten)) := by have := G1.out; rw [← HN.out, List.take_length] at this; exact this
      go_wp2
      go_end0
      exact ⟨rfl, N1.out, G2.out.1⟩
end Go.Proofs.YtdojchamdcokiaaDoor
