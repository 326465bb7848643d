/-
  The law's functions: text.
-/
import Derived.Test.YtlofpbmceipkkaaM29
import Derived.Laws.IdiomCopy
import Derived.Lib.ConvBytes
namespace Go.Proofs.Ytlofpbmceipkkaa
open Go.RowKit Wal Blob

/-- A slice that lies somewhere in a block of cells none of which is frozen. -/
def SRow (w : World) (e : TypeId) (size : Nat) (v : Value) (n : Nat) (xs : List Value) : Prop :=
  xs.length = n * size ∧
  ((v = .slice none 0 0 ∧ n = 0) ∨
   ∃ g off cap cur mk, v = .slice (some ⟨g, off, none⟩) n cap ∧ w.heap[g]? = some (.cells cur e mk) ∧ (mk = (0, 0) ∨ cur.size ≤ mk.1) ∧ n ≤ cap ∧ cap ≤ maxLen ∧ off + cap * size ≤ cur.size ∧ (cur.toList.drop off).take (n * size) = xs)

section
variable {w w' : World} {e : TypeId} {size : Nat} {v : Value} {n : Nat} {xs : List Value}
theorem SRow.nil (w : World) (e : TypeId) (size : Nat) : SRow w e size (.slice none 0 0) 0 [] := ⟨by simp, .inl ⟨rfl, rfl⟩⟩
theorem SRow.of_own {base : Nat} (h : w.ownsRow base e size v n xs) : SRow w e size v n xs := by
  refine ⟨h.1, ?_⟩
  rcases h.2 with h0 | ⟨g, cap, cur, rfl, _, hg, h1, h2, h3, h4⟩
  · exact .inl h0
  · exact .inr ⟨g, 0, cap, cur, (0, 0), rfl, hg, .inl rfl, h1, h2, by omega, by simpa using h4⟩
theorem SRow.only {F : List Nat} (h : SRow w e size v n xs) (k : Only F w w') (hn : ∀ g, v.ownBlock = some g → g ∉ F) : SRow w' e size v n xs := by
  refine ⟨h.1, ?_⟩
  rcases h.2 with h0 | ⟨g, off, cap, cur, mk, rfl, hg, r⟩
  · exact .inl h0
  · exact .inr ⟨g, off, cap, cur, mk, rfl, k.heap hg (hn g rfl), r⟩
theorem SRow.lt (h : SRow w e size v n xs) : ∀ g, v.ownBlock = some g → g < w.heap.size := by
  intro g hg
  rcases h.2 with ⟨rfl, _⟩ | ⟨g', off, cap, cur, mk, rfl, hh, _⟩
  · cases hg
  · have e1 : g' = g := by simpa [Value.ownBlock] using hg
    subst e1
    exact (Array.getElem?_eq_some_iff.1 hh).1
theorem SRow.form (h : SRow w e size v n xs) : ∃ A c, v = .slice A n c := by
  rcases h.2 with ⟨rfl, rfl⟩ | ⟨g, off, cap, cur, mk, rfl, _⟩
  · exact ⟨none, 0, rfl⟩
  · exact ⟨_, cap, rfl⟩
theorem SRow.ty (h : SRow w e size v n xs) : ∀ g, v.ownBlock = some g → ∃ cur mk, w.heap[g]? = some (.cells cur e mk) := by
  intro g hg
  rcases h.2 with ⟨rfl, _⟩ | ⟨g', off, cap, cur, mk, rfl, hh, _⟩
  · cases hg
  · have e1 : g' = g := by simpa [Value.ownBlock] using hg
    subst e1
    exact ⟨cur, mk, hh⟩
/-- The cells of the slice. -/
theorem SRow.at_ (h : SRow w e size v n xs) {A : Option Addr} {c : Nat} (hv : v = .slice A n c) (hn : 0 < n) : ∃ g off, A = some ⟨g, off, none⟩ ∧ g < w.heap.size ∧ ∀ j u, xs[j]? = some u → w.cell? ⟨g, off + j, none⟩ = some u := by
  rcases h.2 with ⟨rfl, h0⟩ | ⟨g, off, cap, cur, mk, rfl, hh, _, h1, h2, h3, h4⟩
  · omega
  · injection hv with hv _ _
    subst hv
    refine ⟨g, off, rfl, (Array.getElem?_eq_some_iff.1 hh).1, fun j u hu => ?_⟩
    have hj : j < n * size := by
      rcases Nat.lt_or_ge j xs.length with h' | h'
      · rw [h.1] at h'; exact h'
      · rw [List.getElem?_eq_none h'] at hu; cases hu
    rw [cell_of_row w g (off + j) cur e mk hh, ← hu, ← h4, List.getElem?_take, if_pos hj, List.getElem?_drop, ← Array.getElem?_toList]
theorem frozen_far {w : World} {g : Nat} {cur : Array Value} {e : TypeId} {mk : Nat × Nat} (hh : w.heap[g]? = some (.cells cur e mk)) (hm : mk = (0, 0) ∨ cur.size ≤ mk.1) {i : Nat} (hi : i < cur.size) : w.frozen? ⟨g, i, none⟩ = false := by
  rcases hm with rfl | hm
  · exact frozen_of_row w g i cur e hh
  · obtain ⟨a, b⟩ := mk
    simp only at hm
    simp [World.frozen?, hh]
    omega
theorem SRow.free (h : SRow w e size v n xs) {A : Option Addr} {c : Nat} (hv : v = .slice A n c) (_hn : 0 < n) : ∃ g off, A = some ⟨g, off, none⟩ ∧ ∀ j, j < n * size → w.frozen? ⟨g, off + j, none⟩ = false := by
  rcases h.2 with ⟨rfl, h0⟩ | ⟨g, off, cap, cur, mk, rfl, hh, hm, h1, h2, h3, h4⟩
  · omega
  · injection hv with hv _ _
    subst hv
    have := Nat.mul_le_mul_right size h1
    exact ⟨g, off, rfl, fun j hj => frozen_far hh hm (by omega)⟩
/-- s[k:], s[:k]. -/
theorem SRow.tail {g off cap k : Nat} (h : SRow w e size (.slice (some ⟨g, off, none⟩) n cap) n xs) (hk : k ≤ n) : SRow w e size (.slice (some ⟨g, off + k * size, none⟩) (n - k) (cap - k)) (n - k) (xs.drop (k * size)) := by
  have hl : (n - k) * size = n * size - k * size := Nat.sub_mul n k size
  refine ⟨by rw [List.length_drop, h.1, hl], ?_⟩
  rcases h.2 with ⟨h0, _⟩ | ⟨g', off', cap', cur, mk, hv, hh, hm, h1, h2, h3, h4⟩
  · cases h0
  · injection hv with hv _ hv3
    injection hv with hv
    injection hv with hv1 hv2 _
    subst hv1 hv2 hv3
    have hkm : k * size ≤ n * size := Nat.mul_le_mul_right _ hk
    have hcm : (cap - k) * size = cap * size - k * size := Nat.sub_mul cap k size
    have hcm2 : k * size ≤ cap * size := Nat.mul_le_mul_right _ (by omega)
    refine .inr ⟨g, off + k * size, cap - k, cur, mk, rfl, hh, hm, by omega, by omega, by rw [hcm]; omega, ?_⟩
    rw [← h4, List.drop_take, List.drop_drop, hl]
theorem SRow.tail' {g off cap : Nat} (h : SRow w e size (.slice (some ⟨g, off, none⟩) n cap) n xs) : SRow w e size (.slice (some ⟨g, off, none⟩) 0 0) 0 [] := by
  refine ⟨by simp, ?_⟩
  rcases h.2 with ⟨h0, _⟩ | ⟨g', off', cap', cur, mk, hv, hh, hm, h1, h2, h3, h4⟩
  · cases h0
  · injection hv with hv _ hv3
    injection hv with hv
    injection hv with hv1 hv2 _
    subst hv1 hv2 hv3
    exact .inr ⟨g, off, 0, cur, mk, rfl, hh, hm, by omega, by omega, by omega, by simp⟩
theorem SRow.head {A : Option Addr} {cap k : Nat} (h : SRow w e size (.slice A n cap) n xs) (hk : k ≤ n) : SRow w e size (.slice A k cap) k (xs.take (k * size)) := by
  have hkm : k * size ≤ n * size := Nat.mul_le_mul_right _ hk
  refine ⟨by rw [List.length_take, h.1]; omega, ?_⟩
  rcases h.2 with ⟨h0, h1⟩ | ⟨g', off', cap', cur, mk, hv, hh, hm, h1, h2, h3, h4⟩
  · injection h0 with h0 _ h2
    subst h0 h2
    obtain rfl : k = 0 := by omega
    exact .inl ⟨rfl, rfl⟩
  · injection hv with hv _ hv3
    subst hv hv3
    exact .inr ⟨g', off', cap, cur, mk, rfl, hh, hm, by omega, h2, h3, by rw [← h4, List.take_take, Nat.min_eq_left hkm]⟩
end

/-- Cells written into a block, from one place on. -/
theorem heap_setCells (g : Nat) (e : TypeId) (mk : Nat × Nat) : ∀ (vs : List Value) (o : Nat) (w : World) (cur : Array Value), w.heap[g]? = some (.cells cur e mk) → o + vs.length ≤ cur.size →
    ∃ cur', (w.setCells g o vs).heap[g]? = some (.cells cur' e mk) ∧ cur'.size = cur.size ∧ cur'.toList = cur.toList.take o ++ vs ++ cur.toList.drop (o + vs.length)
  | [], o, w, cur, h, _ => ⟨cur, h, rfl, by simp⟩
  | v :: vs, o, w, cur, h, hl => by
    have h1 : (w.setCell ⟨g, o, none⟩ v).heap[g]? = some (.cells (cur.setIfInBounds o v) e mk) := by
      rw [setCell_eq_setRow w g o cur e mk v h]
      exact setRow_heap w g cur _ e _ h
    obtain ⟨cur', h2, h3, h4⟩ := heap_setCells g e mk vs (o + 1) (w.setCell ⟨g, o, none⟩ v) (cur.setIfInBounds o v) h1 (by simp at hl ⊢; omega)
    refine ⟨cur', h2, by rw [h3]; simp, ?_⟩
    rw [h4]
    have ho : o < cur.toList.length := by simp at hl ⊢; omega
    rw [Array.toList_setIfInBounds, List.take_set, List.drop_set, if_pos (by omega), List.take_succ_eq_append_getElem ho, List.set_append_right _ _ (by simp; omega)]
    have e1 : o - (cur.toList.take o).length = 0 := by simp; omega
    rw [e1]
    simp only [List.set_cons_zero, List.length_cons, List.append_assoc, List.cons_append, List.nil_append]
    rw [show o + 1 + vs.length = o + (vs.length + 1) by omega]
theorem heap_setCells_far (g : Nat) : ∀ (vs : List Value) (o : Nat) (w : World) (k : Nat), k ≠ g → (w.setCells g o vs).heap[k]? = w.heap[k]?
  | [], _, _, _, _ => rfl
  | v :: vs, o, w, k, h => (heap_setCells_far g vs (o + 1) (w.setCell ⟨g, o, none⟩ v) k h).trans (Below.heap_setCell _ _ _ _ h)
theorem setCells_grown (g : Nat) : ∀ (vs : List Value) (o : Nat) (w : World), w.grownBy (w.setCells g o vs) (some g)
  | [], _, w => World.grownBy.refl w _
  | v :: vs, o, w => by
    have h := setCells_grown g vs (o + 1) (w.setCell ⟨g, o, none⟩ v)
    have hz : w.heap.size ≤ ((w.setCell ⟨g, o, none⟩ v).setCells g (o + 1) vs).heap.size := by
      have := h.size
      rwa [World.size_setCell] at this
    exact ⟨h.os, h.tape, h.output, hz, fun k hk hne => (heap_setCells_far g (v :: vs) o w k (fun e => hne (by rw [e])))⟩

/-- append(v, x...) for a slice that lies anywhere. -/
theorem run_append_srow {P : Program} (w : World) (t ty e : TypeId) (i : TypeInfo) (z : Value) (size bytes : Nat) (ht : P.underlying t = some (.slice e)) (hi : P.info? e = some i) (hz : i.zero = some z)
    (hsize : i.size = size) (hby : i.bytes = bytes) (hzs : z.cells.size = size) (hsz : 0 < size)
    (v : Value) (n : Nat) (xs : List Value) (hr : SRow w e size v n xs)
    (a : Addr) (m c : Nat) (news : List Value) (hl : news.length = m * size) (hnews : ∀ j u, news[j]? = some u → w.cell? (a.add j) = some u) (h1 : ∀ u ∈ news, u.oneCell' = true)
    (h63 : n + m ≤ maxLen) (hbytes : (n + m) * bytes ≤ 140737488355328) :
    ∃ v' w', (Builtin.append_ #[t, t] ty #[v, .slice (some a) m c]).run P w = .ok v' w' ∧ SRow w' e size v' (n + m) (xs ++ news) ∧ w.grownBy w' v.ownBlock ∧ (∀ x, v'.ownBlock = some x → v.ownBlock = some x ∨ w.heap.size ≤ x) := by
  subst hsize
  subst hby
  rcases hr.2 with ⟨rfl, rfl⟩ | ⟨g, off, cap, cur, mk, rfl, hh, hmk, hnc, hcm, hcs, htake⟩
  · have hx : xs = [] := List.eq_nil_of_length_eq_zero (by simpa using hr.1)
    subst hx
    obtain ⟨v', w', hrun, h2, h3, _, h5⟩ := run_append_own_at (P := P) w 0 t ty e i z i.size i.bytes ht hi hz rfl rfl hzs hsz _ 0 [] (World.ownsRow_nil w 0 e i.size) a m c news hl hnews h1 h63 hbytes (Nat.zero_le _)
    exact ⟨v', w', hrun, .of_own h2, h3, fun x hx => by
      rcases h5 with h5 | h5
      · rw [h5] at hx; exact .inl hx
      · rw [h5] at hx; injection hx with hx; exact .inr (by omega)⟩
  · have holds : ∀ j u, xs[j]? = some u → w.cell? ((⟨g, off, none⟩ : Addr).add j) = some u := by
      obtain ⟨_, _, hA, _, hc⟩ | h0 := (Nat.eq_zero_or_pos n).symm.imp (fun h => hr.at_ rfl h) id
      · injection hA with hA
        injection hA with e1 e2 _
        subst e1 e2
        intro j u hu
        rw [WideShapes.add_plain]
        exact hc j u hu
      · intro j u hu
        have : xs = [] := List.eq_nil_of_length_eq_zero (by rw [hr.1, h0]; simp)
        rw [this] at hu
        cases hu
    by_cases hroom : n + m ≤ cap
    · have hfit : off + n * i.size + news.length ≤ cur.size := by
        have := Nat.mul_le_mul_right i.size hroom
        rw [Nat.add_mul] at this
        omega
      have hrun := run_append_room_cells (P := P) w t ty e i ht hi g off n cap a m c news hl hnews h1 hroom (fun j hj => by rw [cell_of_row w g _ cur e mk hh, Array.getElem?_eq_getElem (by omega)]; rfl) (fun j hj => frozen_far hh hmk (by omega))
      obtain ⟨cur', k1, k2, k3⟩ := heap_setCells g e mk news (off + n * i.size) w cur hh hfit
      refine ⟨_, _, hrun, ⟨by rw [List.length_append, hr.1, hl, Nat.add_mul], .inr ⟨g, off, cap, cur', mk, rfl, k1, by rw [k2]; exact hmk, hroom, hcm, by omega, ?_⟩⟩, setCells_grown g news _ w, fun _ hx => .inl hx⟩
      have hlen : (cur.toList.take (off + n * i.size)).length = off + n * i.size := by rw [List.length_take, Array.length_toList]; omega
      have hx : (cur.toList.take (off + n * i.size)).drop off = xs := by rw [List.drop_take, Nat.add_sub_cancel_left]; exact htake
      rw [k3, List.append_assoc, List.drop_append_of_le_length (by omega), hx, ← List.append_assoc, List.take_left' (by rw [List.length_append, hr.1, hl, Nat.add_mul])]
    · obtain ⟨v', w', hrun, h2, h3⟩ := run_append_arg_grows (P := P) w t ty e i z i.size i.bytes ht hi hz rfl rfl hzs hsz ⟨g, off, none⟩ n cap xs hr.1 holds a m c news hl hnews (by omega) h63 hbytes
      refine ⟨v', w', hrun, .of_own h2, ⟨h3.os, h3.tape, h3.output, h3.size, fun k hk _ => h3.block k hk (by simp)⟩, ?_⟩
      exact fun x hx => .inr (h2.lt x hx).1
/-- A slice of bytes that may be appended to. -/
def BRow (w : World) (v : Value) (l : List Nat) : Prop := SRow w 5 1 v l.length (l.map u8v) ∧ ∀ x ∈ l, x < 256

section
variable {w w' : World} {v : Value} {l : List Nat}
theorem BRow.nil (w : World) : BRow w (.slice none 0 0) [] := ⟨SRow.nil _ _ _, by simp⟩
theorem BRow.only {F : List Nat} (h : BRow w v l) (k : Only F w w') (hn : ∀ g, v.ownBlock = some g → g ∉ F) : BRow w' v l := ⟨h.1.only k hn, h.2⟩
theorem BRow.below (h : BRow w v l) (k : Below w.heap.size w w') : BRow w' v l := h.only (Only.of_below (F := []) k) (fun _ _ hx => by cases hx)
theorem BRow.of_own {base : Nat} (h : OwnB w base 5 v l) : BRow w v l := ⟨.of_own h.1, h.2⟩
theorem BRow.form (h : BRow w v l) : ∃ A c, v = .slice A l.length c ∧ Bts w A l.length l := by
  obtain ⟨A, c, rfl⟩ := h.1.form
  refine ⟨A, c, rfl, rfl, h.2, fun hn => ?_⟩
  obtain ⟨g, off, e, hl, hc⟩ := h.1.at_ rfl hn
  refine ⟨g, off, e, hl, fun i hi => hc i _ ?_⟩
  rw [List.getElem?_map, List.getElem?_eq_getElem hi, List.getD_eq_getElem?_getD, List.getElem?_eq_getElem hi]
  rfl
theorem BRow.lt (h : BRow w v l) : ∀ g, v.ownBlock = some g → g < w.heap.size := h.1.lt
end

/-- One byte more. -/
theorem run_append_byte (w : World) (ty : TypeId) (v : Value) (l : List Nat) (h : BRow w v l) (x : Nat) (hx : x < 256) (g c : Nat) (hc : w.cell? ⟨g, 0, none⟩ = some (.int .u8 (x : Int))) (hl : l.length ≤ 4000000000) :
    ∃ v' w', (Builtin.append_ #[45, 45] ty #[v, .slice (some ⟨g, 0, none⟩) 1 c]).run Try.prog w = .ok v' w' ∧ BRow w' v' (l ++ [x]) ∧ w.grownBy w' v.ownBlock ∧ (∀ y, v'.ownBlock = some y → v.ownBlock = some y ∨ w.heap.size ≤ y) := by
  obtain ⟨i, hi, hz, hsize, hby⟩ := info_parts info5
  obtain ⟨v', w', h1, h2, h3, h4⟩ := run_append_srow (P := Try.prog) w 45 ty 5 i (.int .u8 0) 1 1 Try.underlying45 hi hz hsize hby rfl (by omega) v l.length (l.map u8v) h.1 ⟨g, 0, none⟩ 1 c [u8v x] rfl
    (fun j u hu => by
      obtain rfl : j = 0 := by
        rcases j with _ | j
        · rfl
        · simp at hu
      have e : u8v x = u := by simpa using hu
      rw [← e]
      exact hc) (fun u hu => by
        have : u = u8v x := by simpa using hu
        rw [this]; rfl) (by simp only [maxLen]; omega) (by omega)
  refine ⟨v', w', h1, ⟨?_, fun y hy => ?_⟩, h3, h4⟩
  · rw [List.length_append, List.map_append]
    exact h2
  · rcases List.mem_append.1 hy with hy | hy
    · exact h.2 y hy
    · have : y = x := by simpa using hy
      omega
theorem wpList_append_byte {ops : Array Oper} {rest : List Oper} {o : Oper} {a : Act} {w : World} {Q : Exit → Act → World → Prop} (hgd : o.guard = none) (s x : Operand)
    (ho : o.op = .call { callee := .builtin .append, args := #[s, x], argTypes := #[45, 45] }) (v : Value) (l : List Nat) (hs : a.eval s = v) (hr : BRow w v l) (g c : Nat) (b : Nat) (hx : a.eval x = .slice (some ⟨g, 0, none⟩) 1 c) (hb : b < 256)
    (hc : w.cell? ⟨g, 0, none⟩ = some (.int .u8 (b : Int))) (hl : l.length ≤ 4000000000)
    (h : ∀ v' w', BRow w' v' (l ++ [b]) → w.grownBy w' v.ownBlock → (∀ y, v'.ownBlock = some y → v.ownBlock = some y ∨ w.heap.size ≤ y) → wpList Try.prog ops Q rest (a.put o.dst v') w') : wpList Try.prog ops Q (o :: rest) a w := by
  obtain ⟨v', w', h1, h2, h3, h4⟩ := run_append_byte w o.type v l hr b hb g c hc hl
  refine wpList_plain hgd fun _ hK => ?_
  unfold Oper.wp execOp
  simp only [ho, resolve, invoke, builtin, Sem.run_bind, Sem.run_pure, Result.andThen_ok, List.map_toArray, List.map_cons, List.map_nil, hs, hx, h1]
  exact hK _ _ (h v' w' h2 h3 h4)

/-- A string's bytes, as a row. -/
theorem run_to_bytes (w : World) (s : ByteArray) (hs : s.size ≤ maxLen) : ∃ v w', (convert 9 45 (.string s)).run Try.prog w = .ok v w' ∧ BRow w' v (nums s) ∧ Below w.heap.size w w' ∧ ∀ g, v.ownBlock = some g → w.heap.size ≤ g := by
  have h := Lib.run_convert_string_bytes (P := Try.prog) w 9 45 5 s Try.underlying9 Try.underlying45 Try.underlying5
  have hge := grownCap_ge w s.size 0 5
  have hle := grownCap_le_maxLen w s.size 0 5 hs
  have hsz : (Lib.bytesCells w 5 s).size = grownCap w s.size 0 5 := by
    unfold Lib.bytesCells
    rw [Array.size_append, Array.size_map, Array.size_replicate]
    have : s.data.size = s.size := rfl
    omega
  refine ⟨_, _, h, ⟨⟨by rw [List.length_map, Nat.mul_one], .inr ⟨w.heap.size, 0, grownCap w s.size 0 5, Lib.bytesCells w 5 s, _, by rw [nums_length], Lib.bytesWorld_at_new w 5 s, .inr (Nat.le_refl _), by rw [nums_length]; exact hge, hle, by rw [hsz]; omega, ?_⟩⟩, nums_lt s⟩, ⟨rfl, rfl, rfl, by rw [Lib.bytesWorld_size]; omega, fun k hk => Lib.bytesWorld_at_old w 5 s k hk⟩, fun g hg => ?_⟩
  · rw [List.drop_zero, Nat.mul_one, nums_length]
    unfold Lib.bytesCells nums
    rw [Array.toList_append, List.take_left' (by rw [Array.length_toList, Array.size_map]; rfl), Array.toList_map, List.map_map]
    rfl
  · simp [Value.ownBlock] at hg
    omega
set_option maxRecDepth 100000 in
set_option maxHeartbeats 1600000 in
/-- text: some text. -/
theorem text_some (w : World) (s : ByteArray) (hs : s.size ≤ maxLen) (n : Int) :
    Calls Try.prog 9 #[.string s, .int .i64 n] w fun e w' => ∃ l, e = .returned (strV l) ∧ (∀ x ∈ l, x < 256) ∧ l.length ≤ maxLen ∧ Below w.heap.size w w' := by
  obtain ⟨v0, w0, hr0, hb0, hbel0, ho0⟩ := run_to_bytes w s hs
  have R0 := Lib.hid hb0
  have B0 := Lib.hid hbel0
  have O0 := Lib.hid ho0
  have SZ : Hid ((nums s).length ≤ maxLen) := by show _ ≤ _; rw [nums_length]; exact hs
  obtain ⟨A0, c0, rfl, _⟩ := hb0.form
  clear hb0 hbel0 ho0
  go_enter Try.func9, Try.ntmps9
  go_wp2_with fail
  go_loopw [5, 6] (fun b i wr => ∃ (k : Nat) (l : List Nat), k ≤ 60000 ∧ i = .int .i64 k ∧ l.length ≤ maxLen ∧ Hid (BRow wr b l ∧ Below w.heap.size w wr ∧ ∀ g, b.ownBlock = some g → w.heap.size ≤ g)) (fun _ i _ => 60000 - (intOf i).toNat)
  case atStart => exact ⟨0, nums s, by omega, rfl, SZ.out, R0.out, B0.out, O0.out⟩
  case round =>
    obtain ⟨k, l, hk, rfl, hlm, G⟩ := hrel
    obtain ⟨A, c, rfl, _⟩ := G.out.1.form
    have TS : Hid ((convert 45 9 (.slice A l.length c)).run Try.prog wr = .ok (.string (strB l)) wr) := by
      obtain ⟨A', c', e', hbt⟩ := G.out.1.form
      cases e'
      exact hbt.toStr byteT Try.underlying9 c
    have ts := TS.out
    by_cases c1 : (k : Int) < n
    · by_cases c2 : k < 60000
      · by_cases c3 : l.length < 60000
        · have i2 : (k : Int) < 60000 := by omega
          have i3 : (l.length : Int) < 60000 := by omega
          have tm : (k : Int).tmod 251 = ((k % 251 : Nat) : Int) := rfl
          have zw : IntKind.u8.wrap ((k % 251 : Nat) : Int) = ((k % 251 : Nat) : Int) := by rw [IntKind.wrap_u8']; omega
          have zl : k % 251 < 256 := by omega
          generalize k % 251 = z at *
          have R2 : Hid (BRow (wr.alloc (.cells #[.int .u8 (z : Int)] 5)) (.slice A l.length c) l) := G.out.1.below ((Below.refl _ _).alloc (Nat.le_refl _) _)
          clear ts
          go_wp2_with (refine wpList_append_byte rfl (o := ⟨some 28, _, _, _, _, _⟩) (.tmp 23) (.tmp 27) rfl _ _ rfl R2.out wr.heap.size 1 z rfl zl (by rw [World.cell?_alloc_new]; rfl) (by omega) ?_; intro v' w' q1 q2 q3)
          have F : Hid (BRow w' v' (l ++ [z]) ∧ Below w.heap.size w w' ∧ ∀ g, v'.ownBlock = some g → w.heap.size ≤ g) := by
            have s1 := G.out.2.1.size
            refine ⟨q1, (G.out.2.1.alloc s1 _).grown q2 (by simp; omega) (fun x hx => G.out.2.2 x hx), fun g hg => ?_⟩
            rcases q3 g hg with h | h
            · exact G.out.2.2 g h
            · simp at h
              omega
          clear q1 q2 q3
          go_roundw
          case rel => exact ⟨k + 1, l ++ [z], by omega, by go_num, by rw [List.length_append]; unfold maxLen; simp; omega, F⟩
          case measure => simp [intOf]; omega
        · have i2 : (k : Int) < 60000 := by omega
          have i3 : ¬ (l.length : Int) < 60000 := by omega
          go_wp2_with fail
          go_ret
          exact ⟨l, rfl, G.out.1.2, hlm, G.out.2.1⟩
      · have i2 : ¬ (k : Int) < 60000 := by omega
        go_wp2_with fail
        go_ret
        exact ⟨l, rfl, G.out.1.2, hlm, G.out.2.1⟩
    · go_wp2_with fail
      go_ret
      exact ⟨l, rfl, G.out.1.2, hlm, G.out.2.1⟩
set_option maxRecDepth 100000 in
/-- needs. -/
theorem needs_any (w : World) (l : List Nat) (hl : l.length ≤ 100000) : Calls Try.prog 17 #[strV l] w fun e w' => e = .returned (.int .i64 ((needL l.length : Nat) : Int)) ∧ w = w' := by
  have sz := strB_size l
  unfold strV
  rcases Nat.eq_zero_or_pos l.length with h0 | h1
  · have hl : l = [] := List.eq_nil_of_length_eq_zero h0
    subst hl
    rw [strB_nil]
    clear sz h0
    go_enter Try.func17, Try.ntmps17
    go_wp2_with fail
    go_ret
    exact ⟨rfl, rfl⟩
  · have ie := strB_some h1
    have hq : ((l.length : Int) + 511).tdiv 512 = (((l.length + 511) / 512 : Nat) : Int) := by
      rw [show (l.length : Int) + 511 = ((l.length + 511 : Nat) : Int) by omega]
      rfl
    have hn : needL l.length = 1 + (l.length + 511) / 512 := by unfold needL needB; rw [if_neg (by omega)]
    have HN := Lib.hid hn
    generalize hL : l.length = L at *
    have hw : wrap64 ((L : Int) + 511) = (L : Int) + 511 := by unfold wrap64; omega
    go_enter Try.func17, Try.ntmps17
    go_wp2_with fail
    go_ret
    refine ⟨?_, rfl⟩
    rw [HN.out]
    exact congrArg (fun z : Int => Ending.returned (.int .i64 z)) (by omega)
end Go.Proofs.Ytlofpbmceipkkaa
