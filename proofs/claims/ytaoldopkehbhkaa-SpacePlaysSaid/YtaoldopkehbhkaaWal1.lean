/-
  Layer 3, wal: slices that lie anywhere in a block (SRow), a log in memory (LogIs), and the contracts of its small calls.
-/
import Derived.Test.YtaoldopkehbhkaaTab
import Derived.Test.YtaoldopkehbhkaaDiskE
import Derived.ArgAppend
import Derived.Laws.IdiomCopy
namespace Go.Proofs.Ytaoldopkehbhkaa
open Go.RowKit

/-- A slice that lies somewhere in a block of cells none of which is frozen. -/
def SRow (w : World) (e : TypeId) (size : Nat) (v : Value) (n : Nat) (xs : List Value) : Prop :=
  xs.length = n * size ∧
  ((v = .slice none 0 0 ∧ n = 0) ∨
   ∃ g off cap cur mk, v = .slice (some ⟨g, off, none⟩) n cap ∧ w.heap[g]? = some (.cells cur e mk) ∧ (mk = (0, 0) ∨ cur.size ≤ mk.1) ∧ n ≤ cap ∧ cap ≤ maxLen ∧ off + cap * size ≤ cur.size ∧ (cur.toList.drop off).take (n * size) = xs)

section
variable {w w' : World} {e : TypeId} {size : Nat} {v : Value} {n : Nat} {xs : List Value}
theorem SRow.nil (w : World) (e : TypeId) (size : Nat) : SRow w e size (.slice none 0 0) 0 [] := ⟨by simp, .inl ⟨rfl, rfl⟩⟩
theorem SRow.of_own {base : Nat} (h : w.ownsRow base e size v n xs) : SRow w e size v n xs := by
  refine ⟨h.1, ?_⟩
  rcases h.2 with h0 | ⟨g, cap, cur, rfl, _, hg, h1, h2, h3, h4⟩
  · exact .inl h0
  · exact .inr ⟨g, 0, cap, cur, (0, 0), rfl, hg, .inl rfl, h1, h2, by omega, by simpa using h4⟩
theorem SRow.only {F : List Nat} (h : SRow w e size v n xs) (k : Only F w w') (hn : ∀ g, v.ownBlock = some g → g ∉ F) : SRow w' e size v n xs := by
  refine ⟨h.1, ?_⟩
  rcases h.2 with h0 | ⟨g, off, cap, cur, mk, rfl, hg, r⟩
  · exact .inl h0
  · exact .inr ⟨g, off, cap, cur, mk, rfl, k.heap hg (hn g rfl), r⟩
theorem SRow.lt (h : SRow w e size v n xs) : ∀ g, v.ownBlock = some g → g < w.heap.size := by
  intro g hg
  rcases h.2 with ⟨rfl, _⟩ | ⟨g', off, cap, cur, mk, rfl, hh, _⟩
  · cases hg
  · have e1 : g' = g := by simpa [Value.ownBlock] using hg
    subst e1
    exact (Array.getElem?_eq_some_iff.1 hh).1
theorem SRow.form (h : SRow w e size v n xs) : ∃ A c, v = .slice A n c := by
  rcases h.2 with ⟨rfl, rfl⟩ | ⟨g, off, cap, cur, mk, rfl, _⟩
  · exact ⟨none, 0, rfl⟩
  · exact ⟨_, cap, rfl⟩
theorem SRow.ty (h : SRow w e size v n xs) : ∀ g, v.ownBlock = some g → ∃ cur mk, w.heap[g]? = some (.cells cur e mk) := by
  intro g hg
  rcases h.2 with ⟨rfl, _⟩ | ⟨g', off, cap, cur, mk, rfl, hh, _⟩
  · cases hg
  · have e1 : g' = g := by simpa [Value.ownBlock] using hg
    subst e1
    exact ⟨cur, mk, hh⟩
/-- The cells of the slice. -/
theorem SRow.at_ (h : SRow w e size v n xs) {A : Option Addr} {c : Nat} (hv : v = .slice A n c) (hn : 0 < n) : ∃ g off, A = some ⟨g, off, none⟩ ∧ g < w.heap.size ∧ ∀ j u, xs[j]? = some u → w.cell? ⟨g, off + j, none⟩ = some u := by
  rcases h.2 with ⟨rfl, h0⟩ | ⟨g, off, cap, cur, mk, rfl, hh, _, h1, h2, h3, h4⟩
  · omega
  · injection hv with hv _ _
    subst hv
    refine ⟨g, off, rfl, (Array.getElem?_eq_some_iff.1 hh).1, fun j u hu => ?_⟩
    have hj : j < n * size := by
      rcases Nat.lt_or_ge j xs.length with h' | h'
      · rw [h.1] at h'; exact h'
      · rw [List.getElem?_eq_none h'] at hu; cases hu
    rw [cell_of_row w g (off + j) cur e mk hh, ← hu, ← h4, List.getElem?_take, if_pos hj, List.getElem?_drop, ← Array.getElem?_toList]
theorem frozen_far {w : World} {g : Nat} {cur : Array Value} {e : TypeId} {mk : Nat × Nat} (hh : w.heap[g]? = some (.cells cur e mk)) (hm : mk = (0, 0) ∨ cur.size ≤ mk.1) {i : Nat} (hi : i < cur.size) : w.frozen? ⟨g, i, none⟩ = false := by
  rcases hm with rfl | hm
  · exact frozen_of_row w g i cur e hh
  · obtain ⟨a, b⟩ := mk
    simp only at hm
    simp [World.frozen?, hh]
    omega
theorem SRow.free (h : SRow w e size v n xs) {A : Option Addr} {c : Nat} (hv : v = .slice A n c) (_hn : 0 < n) : ∃ g off, A = some ⟨g, off, none⟩ ∧ ∀ j, j < n * size → w.frozen? ⟨g, off + j, none⟩ = false := by
  rcases h.2 with ⟨rfl, h0⟩ | ⟨g, off, cap, cur, mk, rfl, hh, hm, h1, h2, h3, h4⟩
  · omega
  · injection hv with hv _ _
    subst hv
    have := Nat.mul_le_mul_right size h1
    exact ⟨g, off, rfl, fun j hj => frozen_far hh hm (by omega)⟩
/-- s[k:], s[:k]. -/
theorem SRow.tail {g off cap k : Nat} (h : SRow w e size (.slice (some ⟨g, off, none⟩) n cap) n xs) (hk : k ≤ n) : SRow w e size (.slice (some ⟨g, off + k * size, none⟩) (n - k) (cap - k)) (n - k) (xs.drop (k * size)) := by
  have hl : (n - k) * size = n * size - k * size := Nat.sub_mul n k size
  refine ⟨by rw [List.length_drop, h.1, hl], ?_⟩
  rcases h.2 with ⟨h0, _⟩ | ⟨g', off', cap', cur, mk, hv, hh, hm, h1, h2, h3, h4⟩
  · cases h0
  · injection hv with hv _ hv3
    injection hv with hv
    injection hv with hv1 hv2 _
    subst hv1 hv2 hv3
    have hkm : k * size ≤ n * size := Nat.mul_le_mul_right _ hk
    have hcm : (cap - k) * size = cap * size - k * size := Nat.sub_mul cap k size
    have hcm2 : k * size ≤ cap * size := Nat.mul_le_mul_right _ (by omega)
    refine .inr ⟨g, off + k * size, cap - k, cur, mk, rfl, hh, hm, by omega, by omega, by rw [hcm]; omega, ?_⟩
    rw [← h4, List.drop_take, List.drop_drop, hl]
theorem SRow.tail' {g off cap : Nat} (h : SRow w e size (.slice (some ⟨g, off, none⟩) n cap) n xs) : SRow w e size (.slice (some ⟨g, off, none⟩) 0 0) 0 [] := by
  refine ⟨by simp, ?_⟩
  rcases h.2 with ⟨h0, _⟩ | ⟨g', off', cap', cur, mk, hv, hh, hm, h1, h2, h3, h4⟩
  · cases h0
  · injection hv with hv _ hv3
    injection hv with hv
    injection hv with hv1 hv2 _
    subst hv1 hv2 hv3
    exact .inr ⟨g, off, 0, cur, mk, rfl, hh, hm, by omega, by omega, by omega, by simp⟩
theorem SRow.head {A : Option Addr} {cap k : Nat} (h : SRow w e size (.slice A n cap) n xs) (hk : k ≤ n) : SRow w e size (.slice A k cap) k (xs.take (k * size)) := by
  have hkm : k * size ≤ n * size := Nat.mul_le_mul_right _ hk
  refine ⟨by rw [List.length_take, h.1]; omega, ?_⟩
  rcases h.2 with ⟨h0, h1⟩ | ⟨g', off', cap', cur, mk, hv, hh, hm, h1, h2, h3, h4⟩
  · injection h0 with h0 _ h2
    subst h0 h2
    obtain rfl : k = 0 := by omega
    exact .inl ⟨rfl, rfl⟩
  · injection hv with hv _ hv3
    subst hv hv3
    exact .inr ⟨g', off', cap, cur, mk, rfl, hh, hm, by omega, h2, h3, by rw [← h4, List.take_take, Nat.min_eq_left hkm]⟩
end

/-- Cells written into a block, from one place on. -/
theorem heap_setCells (g : Nat) (e : TypeId) (mk : Nat × Nat) : ∀ (vs : List Value) (o : Nat) (w : World) (cur : Array Value), w.heap[g]? = some (.cells cur e mk) → o + vs.length ≤ cur.size →
    ∃ cur', (w.setCells g o vs).heap[g]? = some (.cells cur' e mk) ∧ cur'.size = cur.size ∧ cur'.toList = cur.toList.take o ++ vs ++ cur.toList.drop (o + vs.length)
  | [], o, w, cur, h, _ => ⟨cur, h, rfl, by simp⟩
  | v :: vs, o, w, cur, h, hl => by
    have h1 : (w.setCell ⟨g, o, none⟩ v).heap[g]? = some (.cells (cur.setIfInBounds o v) e mk) := by
      rw [setCell_eq_setRow w g o cur e mk v h]
      exact setRow_heap w g cur _ e _ h
    obtain ⟨cur', h2, h3, h4⟩ := heap_setCells g e mk vs (o + 1) (w.setCell ⟨g, o, none⟩ v) (cur.setIfInBounds o v) h1 (by simp at hl ⊢; omega)
    refine ⟨cur', h2, by rw [h3]; simp, ?_⟩
    rw [h4]
    have ho : o < cur.toList.length := by simp at hl ⊢; omega
    rw [Array.toList_setIfInBounds, List.take_set, List.drop_set, if_pos (by omega), List.take_succ_eq_append_getElem ho, List.set_append_right _ _ (by simp; omega)]
    have e1 : o - (cur.toList.take o).length = 0 := by simp; omega
    rw [e1]
    simp only [List.set_cons_zero, List.length_cons, List.append_assoc, List.cons_append, List.nil_append]
    rw [show o + 1 + vs.length = o + (vs.length + 1) by omega]
theorem heap_setCells_far (g : Nat) : ∀ (vs : List Value) (o : Nat) (w : World) (k : Nat), k ≠ g → (w.setCells g o vs).heap[k]? = w.heap[k]?
  | [], _, _, _, _ => rfl
  | v :: vs, o, w, k, h => (heap_setCells_far g vs (o + 1) (w.setCell ⟨g, o, none⟩ v) k h).trans (Below.heap_setCell _ _ _ _ h)
theorem setCells_grown (g : Nat) : ∀ (vs : List Value) (o : Nat) (w : World), w.grownBy (w.setCells g o vs) (some g)
  | [], _, w => World.grownBy.refl w _
  | v :: vs, o, w => by
    have h := setCells_grown g vs (o + 1) (w.setCell ⟨g, o, none⟩ v)
    have hz : w.heap.size ≤ ((w.setCell ⟨g, o, none⟩ v).setCells g (o + 1) vs).heap.size := by
      have := h.size
      rwa [World.size_setCell] at this
    exact ⟨h.os, h.tape, h.output, hz, fun k hk hne => (heap_setCells_far g (v :: vs) o w k (fun e => hne (by rw [e])))⟩

/-- append(v, x...) for a slice that lies anywhere. -/
theorem run_append_srow {P : Program} (w : World) (t ty e : TypeId) (i : TypeInfo) (z : Value) (size bytes : Nat) (ht : P.underlying t = some (.slice e)) (hi : P.info? e = some i) (hz : i.zero = some z)
    (hsize : i.size = size) (hby : i.bytes = bytes) (hzs : z.cells.size = size) (hsz : 0 < size)
    (v : Value) (n : Nat) (xs : List Value) (hr : SRow w e size v n xs)
    (a : Addr) (m c : Nat) (news : List Value) (hl : news.length = m * size) (hnews : ∀ j u, news[j]? = some u → w.cell? (a.add j) = some u) (h1 : ∀ u ∈ news, u.oneCell' = true)
    (h63 : n + m ≤ maxLen) (hbytes : (n + m) * bytes ≤ 140737488355328) :
    ∃ v' w', (Builtin.append_ #[t, t] ty #[v, .slice (some a) m c]).run P w = .ok v' w' ∧ SRow w' e size v' (n + m) (xs ++ news) ∧ w.grownBy w' v.ownBlock ∧ (∀ x, v'.ownBlock = some x → v.ownBlock = some x ∨ w.heap.size ≤ x) := by
  subst hsize
  subst hby
  rcases hr.2 with ⟨rfl, rfl⟩ | ⟨g, off, cap, cur, mk, rfl, hh, hmk, hnc, hcm, hcs, htake⟩
  · have hx : xs = [] := List.eq_nil_of_length_eq_zero (by simpa using hr.1)
    subst hx
    obtain ⟨v', w', hrun, h2, h3, _, h5⟩ := run_append_own_at (P := P) w 0 t ty e i z i.size i.bytes ht hi hz rfl rfl hzs hsz _ 0 [] (World.ownsRow_nil w 0 e i.size) a m c news hl hnews h1 h63 hbytes (Nat.zero_le _)
    exact ⟨v', w', hrun, .of_own h2, h3, fun x hx => by
      rcases h5 with h5 | h5
      · rw [h5] at hx; exact .inl hx
      · rw [h5] at hx; injection hx with hx; exact .inr (by omega)⟩
  · have holds : ∀ j u, xs[j]? = some u → w.cell? ((⟨g, off, none⟩ : Addr).add j) = some u := by
      obtain ⟨_, _, hA, _, hc⟩ | h0 := (Nat.eq_zero_or_pos n).symm.imp (fun h => hr.at_ rfl h) id
      · injection hA with hA
        injection hA with e1 e2 _
        subst e1 e2
        intro j u hu
        rw [WideShapes.add_plain]
        exact hc j u hu
      · intro j u hu
        have : xs = [] := List.eq_nil_of_length_eq_zero (by rw [hr.1, h0]; simp)
        rw [this] at hu
        cases hu
    by_cases hroom : n + m ≤ cap
    · have hfit : off + n * i.size + news.length ≤ cur.size := by
        have := Nat.mul_le_mul_right i.size hroom
        rw [Nat.add_mul] at this
        omega
      have hrun := run_append_room_cells (P := P) w t ty e i ht hi g off n cap a m c news hl hnews h1 hroom (fun j hj => by rw [cell_of_row w g _ cur e mk hh, Array.getElem?_eq_getElem (by omega)]; rfl) (fun j hj => frozen_far hh hmk (by omega))
      obtain ⟨cur', k1, k2, k3⟩ := heap_setCells g e mk news (off + n * i.size) w cur hh hfit
      refine ⟨_, _, hrun, ⟨by rw [List.length_append, hr.1, hl, Nat.add_mul], .inr ⟨g, off, cap, cur', mk, rfl, k1, by rw [k2]; exact hmk, hroom, hcm, by omega, ?_⟩⟩, setCells_grown g news _ w, fun _ hx => .inl hx⟩
      have hlen : (cur.toList.take (off + n * i.size)).length = off + n * i.size := by rw [List.length_take, Array.length_toList]; omega
      have hx : (cur.toList.take (off + n * i.size)).drop off = xs := by rw [List.drop_take, Nat.add_sub_cancel_left]; exact htake
      rw [k3, List.append_assoc, List.drop_append_of_le_length (by omega), hx, ← List.append_assoc, List.take_left' (by rw [List.length_append, hr.1, hl, Nat.add_mul])]
    · obtain ⟨v', w', hrun, h2, h3⟩ := run_append_arg_grows (P := P) w t ty e i z i.size i.bytes ht hi hz rfl rfl hzs hsz ⟨g, off, none⟩ n cap xs hr.1 holds a m c news hl hnews (by omega) h63 hbytes
      refine ⟨v', w', hrun, .of_own h2, ⟨h3.os, h3.tape, h3.output, h3.size, fun k hk _ => h3.block k hk (by simp)⟩, ?_⟩
      exact fun x hx => .inr (h2.lt x hx).1
end Go.Proofs.Ytaoldopkehbhkaa
