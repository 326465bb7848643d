/-
  docketref06: pairs in order: Get. · docketref06: Delete. · docketref06: Put.
-/
import Derived.Test.YtldmllmkckklhaaDoorQA63
import Derived.Laws.Cover1
namespace Go.Proofs.YtldmllmkckklhaaDoor
open Go.RowKit Wal

theorem OwnP.at_ {w : World} {base : Nat} {A : Option Addr} {m c : Nat} {l : List En} (h : OwnP w base (.slice A m c) l) : m = l.length ∧ PAt w A l := by
  obtain ⟨A', c', e, _, h1⟩ := h.any
  injection e with e1 e2 _
  subst e1 e2
  exact ⟨rfl, h1⟩
theorem getE_drop {l : List En} {k : List Nat} {j : Nat} (hj : j < l.length) : getE (l.drop j) k = if l[j].1 = k then some l[j].2 else getE (l.drop (j + 1)) k := by
  rw [List.drop_eq_getElem_cons hj]
  unfold getE
  rw [List.find?_cons]
  by_cases c : l[j].1 = k
  · simp [c]
  · simp [c]
end Go.Proofs.YtldmllmkckklhaaDoor

namespace Go.Proofs.YtldmllmkckklhaaDoor
open Go.RowKit Wal

theorem filter_delE {k : List Nat} : ∀ {l : List En}, Rises l → l.filter (fun e => decide (e.1 ≠ k)) = delE l k
  | [], _ => rfl
  | x :: r, h => by
    obtain ⟨h1, h2⟩ := List.pairwise_cons.1 h
    have ih := filter_delE (k := k) h2
    rcases ltB_total x.1 k with hx | hx | hx
    · have hy := ltB_asymm hx
      have hn : x.1 ≠ k := fun e => by rw [e, ltB_irrefl] at hx; cases hx
      unfold delE under over at ih ⊢
      simp only [List.filter_cons, hx, hy, hn, if_true, Bool.false_eq_true, if_false, List.cons_append, ne_eq, not_false_eq_true, decide_true]
      rw [← ih]
    · have hr : ∀ e ∈ r, ltB k e.1 = true := fun e he => by rw [← hx]; exact h1 e he
      have h3 : r.filter (fun e => decide (e.1 ≠ k)) = r := List.filter_eq_self.2 fun e he => by
        have := hr e he
        exact decide_eq_true fun e2 => by rw [e2, ltB_irrefl] at this; cases this
      have h4 : delE (x :: r) k = r := by
        unfold delE under over
        rw [List.filter_cons, List.filter_cons]
        simp only [hx, ltB_irrefl, Bool.false_eq_true, if_false]
        have e1 := under_none hr
        have e2 := over_all hr
        unfold under at e1
        unfold over at e2
        rw [e1, e2]
        rfl
      rw [h4, List.filter_cons]
      simp only [hx, ne_eq, not_true_eq_false, decide_false, Bool.false_eq_true, if_false]
      simpa using h3
    · have hr : ∀ e ∈ x :: r, ltB k e.1 = true := fun e he => by
        rcases List.mem_cons.1 he with rfl | he
        · exact hx
        · exact ltB_trans hx (h1 e he)
      have h3 : (x :: r).filter (fun e => decide (e.1 ≠ k)) = x :: r := List.filter_eq_self.2 fun e he => by
        have := hr e he
        exact decide_eq_true fun e2 => by rw [e2, ltB_irrefl] at this; cases this
      rw [h3]
      unfold delE
      rw [under_none hr, over_all hr]
      rfl
theorem hasK_len (l : List En) (k : List Nat) : hasK l k = decide ((l.filter (fun e => decide (e.1 ≠ k))).length < l.length) := by
  unfold hasK
  refine decide_eq_decide.2 ?_
  rw [List.length_filter_lt_length_iff_exists]
  simp
theorem take_filter {l : List En} {p : En → Bool} {j : Nat} (hj : j < l.length) : (l.take (j + 1)).filter p = (l.take j).filter p ++ if p l[j] = true then [l[j]] else [] := by
  rw [List.take_succ_eq_append_getElem hj, List.filter_append]
  congr 1
  rw [List.filter_cons]
  rfl
theorem OwnP.base_ {w : World} {base base' : Nat} {v : Value} {l : List En} (h : OwnP w base v l) (hb : base' ≤ base) : OwnP w base' v l :=
  ⟨h.1, h.2.imp id fun ⟨g, cap, cur, a1, a2, a3⟩ => ⟨g, cap, cur, a1, Nat.le_trans hb a2, a3⟩⟩
end Go.Proofs.YtldmllmkckklhaaDoor

namespace Go.Proofs.YtldmllmkckklhaaDoor
open Go.RowKit Wal

theorem under_append (a b : List En) (k : List Nat) : under (a ++ b) k = under a k ++ under b k := List.filter_append ..
theorem over_append (a b : List En) (k : List Nat) : over (a ++ b) k = over a k ++ over b k := List.filter_append ..
theorem put_del (l : List En) (k v : List Nat) : putE (delE l k) k v = putE l k v := by
  unfold putE delE
  rw [under_append, over_append, under_all (fun e he => under_lt he), under_none (fun e he => over_lt he), over_none (fun e he => under_lt he), over_all (fun e he => over_lt he)]
  simp
theorem put_snoc {X : List En} {y : En} {k v : List Nat} (h : ltB k y.1 = true) : putE (X ++ [y]) k v = putE X k v ++ [y] := by
  unfold putE
  rw [under_append, over_append, under_none (es := [y]) (fun e he => by have : e = y := by simpa using he
                                                                        rw [this]; exact h), over_all (es := [y]) (fun e he => by have : e = y := by simpa using he
                                                                                                                                  rw [this]; exact h)]
  simp
theorem put_here {X : List En} {k v : List Nat} (h : ∀ e ∈ X, ltB e.1 k = true) : putE X k v = X ++ [(k, v)] := by
  unfold putE
  rw [under_all h, over_none h]
theorem del_ne {l : List En} {k : List Nat} : ∀ e ∈ delE l k, e.1 ≠ k := fun e he hk => by
  unfold delE at he
  rcases List.mem_append.1 he with he | he
  · have := under_lt he
    rw [hk, ltB_irrefl] at this; cases this
  · have := over_lt he
    rw [hk, ltB_irrefl] at this; cases this
theorem del_mem {l : List En} {k : List Nat} {e : En} (he : e ∈ delE l k) : e ∈ l := by
  unfold delE at he
  rcases List.mem_append.1 he with he | he
  · exact (List.mem_filter.1 he).1
  · exact (List.mem_filter.1 he).1
theorem del_length (l : List En) (k : List Nat) (h : Rises l) : (delE l k).length ≤ l.length := by
  rw [← filter_delE h]
  exact List.length_filter_le _ _
/-- What the loop keeps. -/
structure PutI (D : List En) (k v : List Nat) (w1 wr : World) (j : Nat) (dn : Bool) (acc : List En) (va : Value) : Prop where
  own : OwnP wr w1.heap.size va acc
  under_ : Below w1.heap.size w1 wr
  is_ : acc = if dn = true then putE (D.take j) k v else D.take j
  low : dn = false → ∀ e ∈ D.take j, ltB e.1 k = true
  high : dn = true → ∃ e ∈ D.take j, ltB k e.1 = true
theorem PutI.len {D : List En} {k v : List Nat} {w1 wr : World} {j : Nat} {dn : Bool} {acc : List En} {va : Value} (h : PutI D k v w1 wr j dn acc va) (hD : Rises D) : acc.length ≤ j + 1 := by
  have h1 : (D.take j).length ≤ j := by rw [List.length_take]; omega
  rw [h.is_]
  cases dn with
  | false => simpa using Nat.le_succ_of_le h1
  | true =>
    simp only [if_true]
    have h2 := del_length (D.take j) k (hD.sublist (List.take_sublist _ _))
    unfold delE at h2
    unfold putE
    rw [List.length_append] at h2 ⊢
    rw [List.length_cons]
    omega
theorem pair_row {w w9 : World} {k v : List Nat} (hw9 : w9 = w.alloc (.cells #[.string (strB k), .string (strB v)] 45)) : Below w.heap.size w w9 ∧ PAt w9 (some ⟨w.heap.size, 0, none⟩) [(k, v)] :=
  ⟨by rw [hw9]; exact (Below.refl _ _).alloc (Nat.le_refl _) _, fun _ => ⟨w.heap.size, 0, rfl, by rw [hw9]; simp, fun x u hx => by
    rw [Nat.zero_add, hw9, (Held.new w 45 #[.string (strB k), .string (strB v)] rfl).cell, ← List.getElem?_toArray] at *
    exact hx⟩⟩
end Go.Proofs.YtldmllmkckklhaaDoor
