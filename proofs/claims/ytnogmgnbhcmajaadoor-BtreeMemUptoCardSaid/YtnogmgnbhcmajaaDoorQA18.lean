/-
  btree: rows of entries: what copy, clear and append of new ones do, cells of any width. · btree: slices.Insert of one entry. · btree: slices.Insert of one entry, ahead of others. · btree: slices.Replace: what the ways have in common.
-/
import Derived.Test.YtnogmgnbhcmajaaDoorQA15
import Derived.Laws.IdiomCopy
import Derived.Lib.AppendZeros
import Derived.Lib.Overlaps
import Derived.Laws.Externs
import Derived.Deep.RegionLaw
namespace Go.Proofs.YtnogmgnbhcmajaaDoor
open Go.RowKit Wal

section
variable {P : Program}
theorem run_copy_wide (w : World) (dT sT ty elem : TypeId) (i : TypeInfo) (b o dLen dCap : Nat) (a : Addr) (sLen sCap : Nat) (cs : List Value)
    (hu : P.underlying dT = some (.slice elem)) (hi : P.info? elem = some i) (hn : cs.length = Nat.min sLen dLen * i.size)
    (hsrc : ∀ j v, cs[j]? = some v → w.cell? (a.add j) = some v) (hc : ∀ j, j < cs.length → (w.cell? ⟨b, o + j, none⟩).isSome = true) (hf : ∀ j, j < cs.length → w.frozen? ⟨b, o + j, none⟩ = false) (h1 : ∀ v ∈ cs, v.oneCell' = true) :
    (Builtin.copy_ #[dT, sT] ty #[.slice (some ⟨b, o, none⟩) dLen dCap, .slice (some a) sLen sCap]).run P w = .ok (goInt (Nat.min sLen dLen)) (w.setCells b o cs) := by
  have hl := run_loadCells_list (P := P) w a cs hsrc
  rw [hn] at hl
  have hst := run_storeCells_cells (P := P) b o cs 0 w (by simpa using hc) (by simpa using hf) h1
  simp [Builtin.copy_, run_underlying hu, Builtin.lenOf, Builtin.firstCells, sizeOf, typeInfo, hi, hl, hst]
theorem run_clear_wide (w : World) (t e ty : TypeId) (z : Value) (ht : P.underlying t = some (.slice e)) (hv : ∀ w, (zeroValue e).run P w = .ok z w) (b o n c : Nat) (hn : 0 < n) (zs : List Value) (hz : (Builtin.zeroCells z.cells n).toList = zs) (h1 : ∀ v ∈ zs, v.oneCell' = true)
    (hc : ∀ j, j < zs.length → (w.cell? ⟨b, o + j, none⟩).isSome = true) (hf : ∀ j, j < zs.length → w.frozen? ⟨b, o + j, none⟩ = false) :
    (Builtin.clear_ #[t] ty #[.slice (some ⟨b, o, none⟩) n c]).run P w = .ok (.tuple #[]) (w.setCells b o zs) := by
  have hst := run_storeCells_cells (P := P) b o zs 0 w (by simpa using hc) (by simpa using hf) h1
  simp only [Nat.add_zero] at hst
  obtain ⟨m, rfl⟩ : ∃ m, n = m + 1 := ⟨n - 1, by omega⟩
  simp [Builtin.clear_, run_underlying ht, hv, hz, hst]
theorem run_append_zeros_grow (w : World) (t tn ty e : TypeId) (i : TypeInfo) (z : Value) (k kn : IntKind) (ht : P.underlying t = some (.slice e)) (htn : P.underlying tn = some (.int kn)) (hi : P.info? e = some i) (hz : i.zero = some z) (hs : 0 < i.size)
    (b : Addr) (sLen sCap : Nat) (olds : List Value) (hlo : olds.length = sLen * i.size) (holds : ∀ j v, olds[j]? = some v → w.cell? (b.add j) = some v) (n : Nat) (h0 : 0 < n) (hg : sCap < sLen + n) (h63 : sLen + n ≤ 100000000) (hb : i.bytes ≤ 1000) :
    (Builtin.append_ #[t, tn] ty #[.slice (some b) sLen sCap, .int k n]).run P w =
      .ok (.slice (some ⟨w.heap.size, 0, none⟩) (sLen + n) (grownCap w (sLen + n) sCap e)) (w.drew.alloc (.cells (olds.toArray ++ Builtin.zeroCells z.cells n ++ Builtin.zeroCells z.cells (grownCap w (sLen + n) sCap e - (sLen + n))) e)) := by
  have hn : ¬ (sLen + n ≤ sCap) := by omega
  have hn0 : n ≠ 0 := by omega
  have hw : IntKind.i64.wrap (n : Int) = n := by rw [IntKind.wrap_i64]; omega
  have hnb : n * i.bytes ≤ 100000000 * 1000 := Nat.mul_le_mul (by omega) hb
  have h48i : ¬ (281474976710656 < (n : Int) * (i.bytes : Int)) := by
    rw [← Int.natCast_mul]
    omega
  have h63' : ¬ (9223372036854775807 < ((sLen : Int) + (n : Int))) := by omega
  have hfit : Builtin.nextslicecap (sLen + n) sCap * i.bytes ≤ 281474976710656 := growslice_fits hg (by
    have : (sLen + n) * i.bytes ≤ 100000000 * 1000 := Nat.mul_le_mul h63 hb
    omega)
  have h48' : ¬ (281474976710656 < Builtin.nextslicecap (sLen + n) sCap * i.bytes) := by omega
  have hneg : ¬ ((n : Int) < 0) := by omega
  have hns : ¬ (n * i.size = 0) := Nat.mul_ne_zero hn0 (by omega)
  have hfo := run_firstCells_some (P := P) w.drew i.size sLen b sLen sCap olds hlo (by simpa using holds)
  simp [Builtin.append_, run_underlying ht, run_underlying htn, sizeOf, typeInfo, zeroValue, hi, hz, asInt, asIntOf, hw, hn, hneg, hns, h63', h48', h48i, Question.forced, hfo, newRow, grownCap]
theorem wp_copy_run (w : World) {o : Oper} {a : Act} {K : Act → World → Prop} {Q : Exit → Act → World → Prop} (d s : Operand) (t t' : TypeId)
    (ho : o.op = .call { callee := .builtin .copy, args := #[d, s], argTypes := #[t, t'] }) (v u : Value) (hd : a.eval d = v) (hs : a.eval s = u) {v' : Value} {w' : World}
    (hr : (Builtin.copy_ #[t, t'] o.type #[v, u]).run P w = .ok v' w') (h : K (a.put o.dst v') w') : o.wp P a w K Q := by
  unfold Oper.wp execOp
  simp only [ho, resolve, invoke, builtin, Sem.run_bind, Sem.run_pure, Result.andThen_ok, List.map_toArray, List.map_cons, List.map_nil, hd, hs, hr]
  exact h
theorem wpList_copy_run (w : World) {ops : Array Oper} {rest : List Oper} {o : Oper} {a : Act} {Q : Exit → Act → World → Prop} (hgd : o.guard = none) (d s : Operand) (t t' : TypeId)
    (ho : o.op = .call { callee := .builtin .copy, args := #[d, s], argTypes := #[t, t'] }) (v u : Value) (hd : a.eval d = v) (hs : a.eval s = u) {v' : Value} {w' : World}
    (hr : (Builtin.copy_ #[t, t'] o.type #[v, u]).run P w = .ok v' w') (h : wpList P ops Q rest (a.put o.dst v') w') : wpList P ops Q (o :: rest) a w :=
  wpList_plain hgd fun _ hK => wp_copy_run w d s t t' ho v u hd hs hr (hK _ _ h)
theorem step_copy_run {ops : Array Oper} {o : Oper} {a : Act} {w : World} {K : Act → World → Prop} {Q : Exit → Act → World → Prop} {E : Prop}
    (hg : o.guard = none) (d x : Operand) (dT sT : TypeId) (hop : o.op = Op.call { callee := Callee.builtin Builtin.copy, args := #[d, x], argTypes := #[dT, sT] })
    (v u : Value) (hd : a.eval d = v) (hx : a.eval x = u) {v' : Value} {w' : World} (hr : (Builtin.copy_ #[dT, sT] o.type #[v, u]).run P w = .ok v' w') (hK : K (a.put o.dst v') w') :
    if Region.wanted o (yielded ops a.tmps) = true then Oper.wp P o a w K Q else E := by
  have hw : Region.wanted o (yielded ops a.tmps) = true := by simp [Region.wanted, hg]
  rw [if_pos hw]
  exact wp_copy_run w d x dT sT hop v u hd hx hr hK
theorem wpList_clear_run (w : World) {ops : Array Oper} {rest : List Oper} {o : Oper} {a : Act} {Q : Exit → Act → World → Prop} (hgd : o.guard = none) (s : Operand) (t : TypeId)
    (ho : o.op = .call { callee := .builtin .clear, args := #[s], argTypes := #[t] }) (v : Value) (hs : a.eval s = v) {v' : Value} {w' : World}
    (hr : (Builtin.clear_ #[t] o.type #[v]).run P w = .ok v' w') (h : wpList P ops Q rest (a.put o.dst v') w') : wpList P ops Q (o :: rest) a w := by
  refine wpList_plain hgd fun _ hK => ?_
  unfold Oper.wp execOp
  simp only [ho, resolve, invoke, builtin, Sem.run_bind, Sem.run_pure, Result.andThen_ok, List.map_toArray, List.map_cons, List.map_nil, hs, hr]
  exact hK _ _ h
end

/-- A stretch of a list, written over. -/
def splice (cur : List Value) (o : Nat) (vs : List Value) : List Value := cur.take o ++ vs ++ cur.drop (o + vs.length)
theorem splice_length {cur : List Value} {o : Nat} {vs : List Value} (h : o + vs.length ≤ cur.length) : (splice cur o vs).length = cur.length := by
  unfold splice
  simp only [List.length_append, List.length_take, List.length_drop]
  omega
theorem splice_next {l r vs : List Value} : splice (l ++ r) l.length vs = (l ++ vs) ++ r.drop vs.length := by
  unfold splice
  rw [List.take_left, List.drop_append, List.drop_eq_nil_of_le (by omega), List.nil_append, show l.length + vs.length - l.length = vs.length by omega]
theorem splice_far {A r : List Value} {k : Nat} {C : List Value} : splice (A ++ r) (A.length + k) C = A ++ (r.take k ++ C ++ r.drop (k + C.length)) := by
  unfold splice
  rw [List.take_append, List.take_of_length_le (by omega), show A.length + k - A.length = k by omega, List.drop_append, List.drop_eq_nil_of_le (by omega), List.nil_append, show A.length + k + C.length - A.length = k + C.length by omega]
  simp only [List.append_assoc]
/-- Block g is just these cells, of entries. -/
def EHeld (w : World) (g : Nat) (cur : List Value) : Prop := Held w g 77 cur.toArray
theorem EHeld.set_ {w : World} {g : Nat} {cur : List Value} (h : EHeld w g cur) (o : Nat) (vs : List Value) (hl : o + vs.length ≤ cur.length) : EHeld (w.setCells g o vs) g (splice cur o vs) := by
  obtain ⟨c1, h2, h3, h4⟩ := Held.cells_ g vs o w _ h (by simpa using hl)
  have e : c1 = (splice cur o vs).toArray := by
    apply Array.toList_inj.1
    rw [h4]
    rfl
  rw [e] at h2
  exact h2
theorem only_cells (w : World) (g o : Nat) (vs : List Value) : Only [g] w (w.setCells g o vs) := by
  obtain ⟨h1, h2, h3, h4⟩ := cells_size g vs o w
  exact ⟨h2, h3, h4, Nat.le_of_eq h1.symm, fun k _ hk => cells_far g vs o w k (fun e => hk (by simp [e]))⟩
theorem EHeld.cell_ {w : World} {g : Nat} {cur : List Value} (h : EHeld w g cur) (j : Nat) : w.cell? ⟨g, j, none⟩ = cur[j]? := by
  rw [Held.cell h]
  simp
theorem EHeld.own {w : World} {g cap base : Nat} {es : List En} {rest : List Value} (h : EHeld w g (rowEn es ++ rest)) (hc : (rowEn es ++ rest).length = cap * 2) (hm : cap ≤ maxLen) (hb : base ≤ g) : OwnEn w base (.slice (some ⟨g, 0, none⟩) es.length cap) es := by
  refine ⟨by rw [rowEn_length], .inr ⟨g, cap, _, rfl, hb, h, ?_, hm, by simpa using hc, ?_⟩⟩
  · rw [List.length_append, rowEn_length] at hc; omega
  · rw [List.toList_toArray, show es.length * 2 = (rowEn es).length by rw [rowEn_length], List.take_left]
theorem OwnEn.held {w : World} {base : Nat} {v : Value} {es : List En} (h : OwnEn w base v es) : (v = .slice none 0 0 ∧ es = []) ∨ ∃ g cap rest, v = .slice (some ⟨g, 0, none⟩) es.length cap ∧ base ≤ g ∧ EHeld w g (rowEn es ++ rest) ∧ (rowEn es ++ rest).length = cap * 2 ∧ cap ≤ maxLen := by
  rcases h.2 with ⟨rfl, h0⟩ | ⟨g, cap, cur, rfl, hg, hh, hn, hcap, hsz, htake⟩
  · exact .inl ⟨rfl, List.eq_nil_of_length_eq_zero h0⟩
  · refine .inr ⟨g, cap, cur.toList.drop (es.length * 2), rfl, hg, ?_, ?_, hcap⟩
    · unfold EHeld
      rw [← htake, List.take_append_drop]
      exact hh
    · rw [← htake, List.take_append_drop, Array.length_toList, hsz]
theorem rowEn_one (es : List En) : ∀ v ∈ rowEn es, v.oneCell' = true := fun v hv => by
  obtain ⟨e, _, h⟩ := List.mem_flatMap.1 hv
  rcases List.mem_cons.1 h with rfl | h
  · rfl
  · have : v = .string (strB e.2) := by simpa using h
    rw [this]; rfl
/-- copy(row[o/2:], entries). -/
theorem run_copy_e {w : World} {g : Nat} {cur : List Value} (h : EHeld w g cur) (o dLen dCap : Nat) (A : Addr) (sLen sCap : Nat) (l : List En) (hl : l.length = Nat.min sLen dLen) (hA : EAt w (some A) l) (hfit : o + l.length * 2 ≤ cur.length) (hA0 : A.spot = none) (ty : TypeId) :
    (Builtin.copy_ #[74, 74] ty #[.slice (some ⟨g, o, none⟩) dLen dCap, .slice (some A) sLen sCap]).run Tryd.prog w = .ok (goInt (Nat.min sLen dLen)) (w.setCells g o (rowEn l)) := by
  obtain ⟨i, hi, hz, hsize, hby⟩ := info_parts infoEn
  refine run_copy_wide w _ _ ty 77 i g o dLen dCap A sLen sCap (rowEn l) Tryd.underlying74 hi (by rw [rowEn_length, hl, hsize]) (fun j v hj => ?_) (fun j hj => ?_) (fun j hj => Held.frozen h _) (rowEn_one l)
  · have hp : 0 < l.length := by
      have := (List.getElem?_eq_some_iff.1 hj).1
      rw [rowEn_length] at this
      omega
    obtain ⟨g', off, e, _, hc⟩ := hA hp
    cases e
    rw [WideShapes.add_plain]
    exact hc j v hj
  · rw [rowEn_length] at hj
    rw [h.cell_, List.getElem?_eq_getElem (by omega)]
    rfl
end Go.Proofs.YtnogmgnbhcmajaaDoor

namespace Go.Proofs.YtnogmgnbhcmajaaDoor
open Go.RowKit Wal

/-- One entry, in a block of its own. -/
def OneEn (w : World) (vb : Nat) (e : En) : Prop := Held w vb 77 #[.string (strB e.1), .string (strB e.2)]
theorem OneEn.at_ {w : World} {vb : Nat} {e : En} (h : OneEn w vb e) : EAt w (some ⟨vb, 0, none⟩) [e] := fun _ => ⟨vb, 0, rfl, h.lt, fun j u hj => by
  rw [Nat.zero_add, Held.cell h]
  rw [← List.getElem?_toArray] at hj
  exact hj⟩
/-- What is left of an insertion in place. -/
theorem insert_place {es : List En} {rest : List Value} {i : Nat} (e : En) (hi : i < es.length) (hr : 2 ≤ rest.length) :
    splice (splice (rowEn es ++ rest) ((i + 1) * 2) (rowEn (es.drop i))) (i * 2) (rowEn [e]) = rowEn (es.take i ++ e :: es.drop i) ++ rest.drop 2 := by
  have l1 : (rowEn (es.take i)).length = i * 2 := by rw [rowEn_length, List.length_take]; omega
  have l2 : (rowEn (es.drop i)).length = (es.length - i) * 2 := by rw [rowEn_length, List.length_drop]
  have e1 : rowEn es ++ rest = rowEn (es.take i) ++ (rowEn (es.drop i) ++ rest) := by
    rw [← List.append_assoc, ← rowEn_append, List.take_append_drop]
  rw [e1]
  have e2 : (i + 1) * 2 = (rowEn (es.take i)).length + 2 := by rw [l1]; omega
  rw [e2, splice_far, ← l1]
  have e3 : (List.take 2 (rowEn (es.drop i) ++ rest)).length = (rowEn [e]).length := by
    rw [List.length_take, List.length_append, l2]
    show _ = 2
    omega
  have e4 : ∀ X : List Value, splice (rowEn (es.take i) ++ (List.take 2 (rowEn (es.drop i) ++ rest) ++ X)) (rowEn (es.take i)).length (rowEn [e]) = rowEn (es.take i) ++ rowEn [e] ++ X := fun X => by
    rw [splice_next, ← e3, List.drop_left]
  rw [List.append_assoc, e4, rowEn_append]
  have e5 : rowEn (e :: es.drop i) = rowEn [e] ++ rowEn (es.drop i) := rfl
  have e6 : List.drop (2 + (rowEn (es.drop i)).length) (rowEn (es.drop i)) = [] := List.drop_eq_nil_of_le (by omega)
  rw [e5, List.drop_append, e6, List.nil_append, show 2 + (rowEn (es.drop i)).length - (rowEn (es.drop i)).length = 2 by omega]
  simp only [List.append_assoc]
def zeroE : En := ([], [])
theorem zeroEn : (Tryd.prog.info? 77).map (fun i => (i.zero, i.size)) = some (some (.agg #[.string ⟨#[]⟩, .string ⟨#[]⟩]), 2) := by kernel_rfl
theorem zeros_length (n : Nat) : (Builtin.zeroCells (Value.agg #[.string ⟨#[]⟩, .string ⟨#[]⟩]).cells n).toList.length = n * 2 := by
  rw [Array.length_toList, size_zeroCells]
  rfl
/-- What is left of an insertion in a new row. -/
theorem insert_new {es : List En} {rest : List Value} {i : Nat} (e : En) (hi : i < es.length) :
    splice (splice (rowEn (es.take i) ++ rest) (i * 2) (rowEn [e])) ((i + 1) * 2) (rowEn (es.drop i)) = rowEn (es.take i ++ e :: es.drop i) ++ rest.drop ((es.length + 1 - i) * 2) := by
  have l1 : (rowEn (es.take i)).length = i * 2 := by rw [rowEn_length, List.length_take]; omega
  have l2 : (rowEn (es.drop i)).length = (es.length - i) * 2 := by rw [rowEn_length, List.length_drop]
  have le : (rowEn [e]).length = 2 := rfl
  rw [← l1, splice_next, show (i + 1) * 2 = (rowEn (es.take i) ++ rowEn [e]).length by rw [List.length_append, l1, le]; omega, splice_next, List.drop_drop, le, l2, rowEn_append]
  have e5 : rowEn (e :: es.drop i) = rowEn [e] ++ rowEn (es.drop i) := rfl
  rw [e5, show 2 + (es.length - i) * 2 = (es.length + 1 - i) * 2 by omega]
  simp only [List.append_assoc]
set_option maxRecDepth 100000 in
set_option maxHeartbeats 1600000 in
theorem insert_end (w : World) (base : Nat) (v : Value) (es : List En) (ho : OwnEn w base v es) (vb : Nat) (e : En) (hv : OneEn w vb e) (hb : base ≤ w.heap.size) (hn : es.length ≤ 1000) :
    Calls Tryd.prog 26 #[v, .int .i64 (es.length : Nat), .slice (some ⟨vb, 0, none⟩) 1 1] w fun x w' => ∃ v', x = .returned v' ∧ OwnEn w' base v' (es ++ [e]) ∧ w.grownBy w' v.ownBlock := by
  have O := Lib.hid ho
  have V := Lib.hid hv.at_
  have HB := Lib.hid hb
  rcases ho.held with ⟨rfl, rfl⟩ | ⟨g, cap, rest, rfl, hg, hh, hl, hc⟩
  · clear ho hv hb
    go_enter Tryd.func26, Tryd.ntmps26
    go_wp2_with (at_builtin; refine wpList_append_e rfl (o := ⟨some 25, _, _, _, _, _⟩) (.tmp 23) (.tmp 24) rfl base _ _ rfl O.out (some ⟨vb, 0, none⟩) 1 1 [e] rfl rfl V.out (by simp) HB.out ?_; intro v4 w4 hown4 hg4)
    have F : Hid (OwnEn w4 base v4 ([] ++ [e]) ∧ w.grownBy w4 (Value.slice none 0 0).ownBlock) := ⟨hown4, hg4⟩
    clear hown4 hg4
    go_ret
    exact ⟨_, rfl, F.out.1, F.out.2⟩
  · have ln : es.length ≤ cap := by rw [List.length_append, rowEn_length] at hl; omega
    have lm : cap ≤ 9223372036854775807 := hc
    clear ho hv hb hh hl hc
    go_enter Tryd.func26, Tryd.ntmps26
    go_wp2_with (at_builtin; refine wpList_append_e rfl (o := ⟨some 25, _, _, _, _, _⟩) (.tmp 23) (.tmp 24) rfl base _ _ rfl O.out (some ⟨vb, 0, none⟩) 1 1 [e] rfl rfl V.out (by simp; omega) HB.out ?_; intro v4 w4 hown4 hg4; have F : Hid (OwnEn w4 base v4 (es ++ [e]) ∧ w.grownBy w4 (Value.slice (some ⟨g, 0, none⟩) es.length cap).ownBlock) := ⟨hown4, hg4⟩; clear hown4 hg4)
    all_goals
      go_ret
      exact ⟨_, rfl, F.out.1, F.out.2⟩
end Go.Proofs.YtnogmgnbhcmajaaDoor

namespace Go.Proofs.YtnogmgnbhcmajaaDoor
open Go.RowKit Wal

theorem Held.shape_ {w : World} {g : Nat} {t : TypeId} {cs : Array Value} (h : Held w g t cs) : w.shape? g = some (t, cs.size) := by
  unfold World.shape?
  rw [show w.heap[g]? = _ from h]
theorem overlaps_no {w : World} {vb g : Nat} {e : En} {cur : List Value} (hv : OneEn w vb e) (hg : EHeld w g cur) (hc : cur.length ≠ 0) (hne : vb ≠ g) (n c off lb cb : Nat) :
    (callFunc 42 #[.slice (some ⟨vb, 0, none⟩) n c, .slice (some ⟨g, off, none⟩) lb cb]).run Tryd.prog w = .ok (.value (.bool false)) w := by
  obtain ⟨i, hi, hz, hsize, hby⟩ := info_parts infoEn
  rw [run_callFunc_extern Tryd.func42 (by kernel_rfl) (by kernel_rfl) (by kernel_rfl) (e := Extern.SlicesOverlaps.overlaps #[74, 74] #[4]) (by kernel_rfl),
    Lib.run_overlaps_apart w 74 4 77 Tryd.underlying74 2 (fun w => by simp [sizeOf, typeInfo, hi, hsize]) ⟨vb, 0, none⟩ ⟨g, off, none⟩ n c lb cb hne _ _ _ _ (Held.shape_ hv) (Held.shape_ hg) (by simpa using hc) (Held.frozen hv 0) (Held.frozen hv _)]
  rfl
theorem grown_of_only {w w' : World} {g : Nat} (h : Only [g] w w') : w.grownBy w' (some g) := by
  refine ⟨h.os, h.tape, h.output, h.size, fun k hk hn => h.block k hk (fun hm => hn ?_)⟩
  have : k = g := by simpa using hm
  rw [this]
theorem row_at {w : World} {g : Nat} {es : List En} {rest : List Value} (h : EHeld w g (rowEn es ++ rest)) : EAt w (some ⟨g, 0, none⟩) es := fun _ => ⟨g, 0, rfl, Held.lt h, fun j u hj => by
  rw [Nat.zero_add, h.cell_, List.getElem?_append_left (List.getElem?_eq_some_iff.1 hj).1]
  exact hj⟩
set_option maxRecDepth 100000 in
set_option maxHeartbeats 1600000 in
theorem insert_room (w : World) (base g cap : Nat) (es : List En) (rest : List Value) (hh : EHeld w g (rowEn es ++ rest)) (hl : (rowEn es ++ rest).length = cap * 2) (hc : cap ≤ maxLen) (hg : base ≤ g) (i : Nat) (hi : i < es.length) (hroom : es.length + 1 ≤ cap) (vb : Nat) (e : En) (hv : OneEn w vb e) (hne : vb ≠ g) (hn : es.length ≤ 1000) :
    Calls Tryd.prog 26 #[.slice (some ⟨g, 0, none⟩) es.length cap, .int .i64 (i : Nat), .slice (some ⟨vb, 0, none⟩) 1 1] w fun x w' => ∃ v', x = .returned v' ∧ OwnEn w' base v' (es.take i ++ e :: es.drop i) ∧ w.grownBy w' (some g) := by
  have lm : cap ≤ 9223372036854775807 := hc
  have hov := fun off lb cb => overlaps_no hv hh (by rw [hl]; omega) hne 1 1 off lb cb
  obtain ⟨n, hn0⟩ : ∃ n, n = es.length := ⟨_, rfl⟩
  have HN := Lib.hid hn0
  rw [← hn0] at hi hroom hn ⊢
  clear hn0
  have q1 : ¬ (i : Int) = (n : Int) := by omega
  have q2 : ¬ (cap : Int) < (n : Int) + 1 := by omega
  have q3 : ¬ cap = i := by omega
  have q4 : ¬ cap = i + 1 := by omega
  have q5 : i ≤ n := by omega
  have q6 : IntKind.i64.wrap ((i : Int) + 1) = (i : Int) + 1 := by rw [IntKind.wrap_i64]; omega
  have q12 : (0 : Int) ≤ (i : Int) + 1 := by omega
  have q13 : ((i : Int) + 1).toNat = i + 1 := by omega
  have q14 : (i : Int) ≤ (n : Int) + 1 := by omega
  have hr : 2 ≤ rest.length := by rw [List.length_append, rowEn_length, ← HN.out] at hl; omega
  have ld : (es.drop i).length = n - i := by rw [List.length_drop, ← HN.out]
  have hd : EHeld w.drew g (rowEn es ++ rest) := hh
  have sp1 : (i + 1) * 2 + (es.drop i).length * 2 ≤ (rowEn es ++ rest).length := by rw [ld, hl]; omega
  have sp1' : (i + 1) * 2 + (rowEn (es.drop i)).length ≤ (rowEn es ++ rest).length := by rw [rowEn_length]; exact sp1
  have hA1 : EAt w.drew (some ⟨g, i * 2, none⟩) (es.drop i) := by
    have := (row_at hd).drop_ i
    rwa [Nat.zero_add] at this
  have hcp1 : ∀ ty, (Builtin.copy_ #[74, 74] ty #[.slice (some ⟨g, (i + 1) * 2, none⟩) (n - i) (cap - (i + 1)), .slice (some ⟨g, i * 2, none⟩) (n + 1 - i) (cap - i)]).run Tryd.prog w.drew = .ok (goInt (Nat.min (n + 1 - i) (n - i))) (w.drew.setCells g ((i + 1) * 2) (rowEn (es.drop i))) := fun ty =>
    run_copy_e hd _ _ _ _ _ _ (es.drop i) (by rw [ld]; simp only [Nat.min_def]; split <;> omega) hA1 sp1 rfl ty
  have h1 := hd.set_ _ _ sp1'
  have o1 : Only [g] w (w.drew.setCells g ((i + 1) * 2) (rowEn (es.drop i))) := (Only.refl [g] w).drew.trans (only_cells w.drew g _ _) (fun x hx => .inl hx)
  obtain ⟨W1, hW1⟩ : ∃ W1, W1 = w.drew.setCells g ((i + 1) * 2) (rowEn (es.drop i)) := ⟨_, rfl⟩
  rw [← hW1] at h1 o1 hcp1
  have hv1 : OneEn W1 vb e := Held.only hv o1 (by simpa using hne)
  have sp2 : i * 2 + [e].length * 2 ≤ (splice (rowEn es ++ rest) ((i + 1) * 2) (rowEn (es.drop i))).length := by rw [splice_length sp1', hl]; simp; omega
  have hcp2 : ∀ ty, (Builtin.copy_ #[74, 74] ty #[.slice (some ⟨g, i * 2, none⟩) (n + 1 - i) (cap - i), .slice (some ⟨vb, 0, none⟩) 1 1]).run Tryd.prog W1 = .ok (goInt (Nat.min 1 (n + 1 - i))) (W1.setCells g (i * 2) (rowEn [e])) := fun ty =>
    run_copy_e h1 _ _ _ _ _ _ [e] (by simp only [Nat.min_def, List.length_cons, List.length_nil]; split <;> omega) hv1.at_ sp2 rfl ty
  have h2 := h1.set_ (i * 2) (rowEn [e]) (by rw [rowEn_length]; exact sp2)
  rw [insert_place e (by rw [← HN.out]; exact hi) hr] at h2
  have o2 : Only [g] w (W1.setCells g (i * 2) (rowEn [e])) := o1.trans (only_cells W1 g _ _) (fun x hx => .inl hx)
  have FIN : Hid (OwnEn (W1.setCells g (i * 2) (rowEn [e])) base (.slice (some ⟨g, 0, none⟩) (n + 1) cap) (es.take i ++ e :: es.drop i) ∧ w.grownBy (W1.setCells g (i * 2) (rowEn [e])) (some g)) := by
    have le : (es.take i ++ e :: es.drop i).length = n + 1 := by
      rw [List.length_append, List.length_cons, ld, List.length_take, ← HN.out]; omega
    have := h2.own (base := base) (cap := cap) (by rw [List.length_append, rowEn_length, le, List.length_drop]; rw [List.length_append, rowEn_length, ← HN.out] at hl; omega) hc hg
    rw [le] at this
    exact ⟨this, grown_of_only o2⟩
  clear hh hv hd hA1 h1 h2 o1 o2 hv1 sp1 sp1' sp2 ld hr hW1
  go_enter Tryd.func26, Tryd.ntmps26
  go_wp2_with (simp only [hov])
  go_region_law (refine step_copy_run rfl _ _ 74 74 rfl _ _ (by simp [Act.eval, Act.put]) (by simp [Act.eval, Act.put]) (hcp1 _) ?_)
  go_wp2_with (at_builtin; refine wpList_copy_run _ rfl (o := ⟨some 82, _, _, _, _, _⟩) _ _ 74 74 rfl _ _ rfl rfl (hcp2 _) ?_)
  go_ret
  exact ⟨_, rfl, FIN.out.1, FIN.out.2⟩
set_option maxRecDepth 100000 in
set_option maxHeartbeats 1600000 in
theorem insert_grow (w : World) (base g cap : Nat) (es : List En) (rest : List Value) (hh : EHeld w g (rowEn es ++ rest)) (hl : (rowEn es ++ rest).length = cap * 2) (hc : cap ≤ maxLen) (hb : base ≤ w.heap.size) (i : Nat) (hi : i < es.length) (hroom : cap < es.length + 1) (vb : Nat) (e : En) (hv : OneEn w vb e) (hn : es.length ≤ 1000) :
    Calls Tryd.prog 26 #[.slice (some ⟨g, 0, none⟩) es.length cap, .int .i64 (i : Nat), .slice (some ⟨vb, 0, none⟩) 1 1] w fun x w' => ∃ v', x = .returned v' ∧ OwnEn w' base v' (es.take i ++ e :: es.drop i) ∧ w.grownBy w' (some g) := by
  have lm : cap ≤ 9223372036854775807 := hc
  obtain ⟨n, hn0⟩ : ∃ n, n = es.length := ⟨_, rfl⟩
  have HN := Lib.hid hn0
  rw [← hn0] at hi hroom hn ⊢
  clear hn0
  have ec : n ≤ cap := by rw [List.length_append, rowEn_length, ← HN.out] at hl; omega
  obtain rfl : cap = n := by omega
  obtain ⟨i0, hi0, hz0, hs0, hb0⟩ := info_parts infoEn
  have lt : (es.take i).length = i := by rw [List.length_take, ← HN.out]; omega
  have ld : (es.drop i).length = cap - i := by rw [List.length_drop, ← HN.out]
  have hap := fun ty => run_append_zeros_grow (P := Tryd.prog) w 74 3 ty 77 i0 (.agg #[.string ⟨#[]⟩, .string ⟨#[]⟩]) .i64 .i64 Tryd.underlying74 Tryd.underlying3 hi0 hz0 (by omega) ⟨g, 0, none⟩ i cap (rowEn (es.take i)) (by rw [rowEn_length, lt, hs0]) (fun j v hj => by
    have := (row_at hh).take_ i
    have hp : 0 < (es.take i).length := by
      have := (List.getElem?_eq_some_iff.1 hj).1
      rw [rowEn_length] at this
      omega
    obtain ⟨g', off, e', _, hcc⟩ := this hp
    cases e'
    rw [WideShapes.add_plain]
    exact hcc j v hj) (cap + 1 - i) (by omega) (by omega) (by omega) (by omega)
  rw [show i + (cap + 1 - i) = cap + 1 by omega] at hap
  obtain ⟨zs, hzs⟩ : ∃ zs, zs = (Builtin.zeroCells (Value.agg #[.string ⟨#[]⟩, .string ⟨#[]⟩]).cells (cap + 1 - i)).toList ++ (Builtin.zeroCells (Value.agg #[.string ⟨#[]⟩, .string ⟨#[]⟩]).cells (grownCap w (cap + 1) cap 77 - (cap + 1))).toList := ⟨_, rfl⟩
  obtain ⟨c2, hc2⟩ : ∃ c2, c2 = grownCap w (cap + 1) cap 77 := ⟨_, rfl⟩
  have c2a : cap + 1 ≤ c2 := by rw [hc2]; exact grownCap_ge _ _ _ _
  have c2b : c2 ≤ maxLen := by rw [hc2]; exact grownCap_le_maxLen _ _ _ _ (by unfold maxLen; omega)
  have zl : zs.length = (c2 - i) * 2 := by rw [hzs, List.length_append, zeros_length, zeros_length, ← hc2]; omega
  obtain ⟨w1, hw1⟩ : ∃ w1, w1 = w.drew.alloc (.cells (rowEn (es.take i) ++ zs).toArray 77) := ⟨_, rfl⟩
  obtain ⟨b, hb1⟩ : ∃ b, b = w.heap.size := ⟨_, rfl⟩
  have ecs : ∀ x y : Array Value, (rowEn (es.take i)).toArray ++ x ++ y = (rowEn (es.take i) ++ (x.toList ++ y.toList)).toArray := fun x y => by
    apply Array.toList_inj.1
    simp
  rw [ecs, ← hzs, ← hw1, ← hc2, ← hb1] at hap
  have h0 : EHeld w1 b (rowEn (es.take i) ++ zs) := by rw [hw1]; exact Held.new _ _ _ hb1
  have o0 : Below w.heap.size w w1 := by rw [hw1]; exact ((Below.refl _ _).drew).alloc (Nat.le_refl _) _
  have len0 : (rowEn (es.take i) ++ zs).length = c2 * 2 := by rw [List.length_append, rowEn_length, lt, zl]; omega
  have hv1 : OneEn w1 vb e := Held.below hv o0 (Held.lt hv)
  have sp1 : i * 2 + [e].length * 2 ≤ (rowEn (es.take i) ++ zs).length := by rw [len0]; simp; omega
  have hcp1 : ∀ ty, (Builtin.copy_ #[74, 74] ty #[.slice (some ⟨b, i * 2, none⟩) (cap + 1 - i) (c2 - i), .slice (some ⟨vb, 0, none⟩) 1 1]).run Tryd.prog w1 = .ok (goInt (Nat.min 1 (cap + 1 - i))) (w1.setCells b (i * 2) (rowEn [e])) := fun ty =>
    run_copy_e h0 _ _ _ _ _ _ [e] (by simp only [Nat.min_def, List.length_cons, List.length_nil]; split <;> omega) hv1.at_ sp1 rfl ty
  have h1 := h0.set_ (i * 2) (rowEn [e]) (by rw [rowEn_length]; exact sp1)
  have bn : w.heap.size ≤ b := by omega
  have ne : g ≠ b := by have := Held.lt hh; omega
  have o1 : Only [b] w1 (w1.setCells b (i * 2) (rowEn [e])) := only_cells w1 b _ _
  obtain ⟨w2, hw2⟩ : ∃ w2, w2 = w1.setCells b (i * 2) (rowEn [e]) := ⟨_, rfl⟩
  rw [← hw2] at h1 o1 hcp1
  have hA2 : EAt w2.drew (some ⟨g, i * 2, none⟩) (es.drop i) := by
    have e1 : EHeld w1 g (rowEn es ++ rest) := Held.below hh o0 (Held.lt hh)
    have e2 : EHeld w2.drew g (rowEn es ++ rest) := Held.only e1 o1.drew (by simpa using ne)
    have := (row_at e2).drop_ i
    rwa [Nat.zero_add] at this
  have sp2 : (i + 1) * 2 + (es.drop i).length * 2 ≤ (splice (rowEn (es.take i) ++ zs) (i * 2) (rowEn [e])).length := by rw [splice_length (by rw [rowEn_length]; exact sp1), len0, ld]; omega
  have hcp2 : ∀ ty, (Builtin.copy_ #[74, 74] ty #[.slice (some ⟨b, (i + 1) * 2, none⟩) (cap - i) (c2 - (i + 1)), .slice (some ⟨g, i * 2, none⟩) (cap - i) (cap - i)]).run Tryd.prog w2.drew = .ok (goInt (Nat.min (cap - i) (cap - i))) (w2.drew.setCells b ((i + 1) * 2) (rowEn (es.drop i))) := fun ty =>
    run_copy_e (show EHeld w2.drew b _ from h1) _ _ _ _ _ _ (es.drop i) (by rw [ld]; simp) hA2 sp2 rfl ty
  have h2 := (show EHeld w2.drew b _ from h1).set_ ((i + 1) * 2) (rowEn (es.drop i)) (by rw [rowEn_length]; exact sp2)
  rw [insert_new e (by rw [← HN.out]; exact hi)] at h2
  have FIN : Hid (OwnEn (w2.drew.setCells b ((i + 1) * 2) (rowEn (es.drop i))) base (.slice (some ⟨b, 0, none⟩) (cap + 1) c2) (es.take i ++ e :: es.drop i) ∧ w.grownBy (w2.drew.setCells b ((i + 1) * 2) (rowEn (es.drop i))) (some g)) := by
    have le : (es.take i ++ e :: es.drop i).length = cap + 1 := by
      rw [List.length_append, List.length_cons, ld, lt]; omega
    have := h2.own (base := base) (cap := c2) (by rw [List.length_append, rowEn_length, le, List.length_drop, zl, ← HN.out]; omega) c2b (by omega)
    rw [le] at this
    have ob : Below w.heap.size w (w2.drew.setCells b ((i + 1) * 2) (rowEn (es.drop i))) :=
      below_only (o0.trans ((o1.below (B := w.heap.size) o0.size (fun x hx => by have : x = b := by simpa using hx
                                                                                 omega)))) ((Only.refl [b] w2).drew.trans (only_cells w2.drew b _ _) (fun x hx => .inl hx)) bn (by
        have := o0.size
        have := o1.size
        omega)
    exact ⟨this, ⟨ob.os, ob.tape, ob.output, ob.size, fun k hk _ => ob.block k hk⟩⟩
  have q1 : ¬ (i : Int) = (cap : Int) := by omega
  have q2 : (cap : Int) < (cap : Int) + 1 := by omega
  have q3 : ¬ cap = i := by omega
  have q4 : ¬ c2 = i + 1 := by omega
  have q4' : ¬ c2 = i := by omega
  have q5 : i ≤ cap := by omega
  have q6 : IntKind.i64.wrap ((i : Int) + 1) = (i : Int) + 1 := by rw [IntKind.wrap_i64]; omega
  have q12 : (0 : Int) ≤ (i : Int) + 1 := by omega
  have q13 : ((i : Int) + 1).toNat = i + 1 := by omega
  have q7 : (cap : Int) + 1 - (i : Int) = ((cap + 1 - i : Nat) : Int) := by omega
  have q8 : i + (cap + 1 - i) = cap + 1 := by omega
  have q9 : c2 ≤ 9223372036854775807 := c2b
  have q10 : i ≤ c2 := by omega
  have q11 : i + 1 ≤ c2 := by omega
  clear hh hv h0 o0 h1 o1 hv1 sp1 sp2 hA2 h2 hw1 hw2 hzs hb1 hc2 lt ld zl len0 ecs hl
  have HAP := Lib.hid hap
  clear hap
  go_enter Tryd.func26, Tryd.ntmps26
  go_wp2_with (first | (at_builtin; refine Lib.wpList_append_run _ rfl (o := ⟨some 40, _, _, _, _, _⟩) (.tmp 34) (.tmp 39) 74 3 rfl _ _ rfl rfl _ _ (HAP.out _) ?_) | (at_builtin; refine wpList_copy_run _ rfl (o := ⟨some 45, _, _, _, _, _⟩) _ _ 74 74 rfl _ _ rfl rfl (hcp1 _) ?_))
  go_region_law (refine step_copy_run rfl _ _ 74 74 rfl _ _ (by simp [Act.eval, Act.put]) (by simp [Act.eval, Act.put]) (hcp2 _) ?_)
  go_wp2_with fail
  go_ret
  exact ⟨_, rfl, FIN.out.1, FIN.out.2⟩
theorem OwnEn.block_ {w : World} {base : Nat} {v : Value} {es : List En} (h : OwnEn w base v es) : (v = .slice none 0 0 ∧ es = []) ∨ ∃ g, v.ownBlock = some g := by
  rcases h.held with h | ⟨g, cap, rest, rfl, _⟩
  · exact .inl h
  · exact .inr ⟨g, rfl⟩
/-- slices.Insert of one entry. -/
theorem insert_any (w : World) (base : Nat) (v : Value) (es : List En) (ho : OwnEn w base v es) (i : Nat) (hi : i ≤ es.length) (vb : Nat) (e : En) (hv : OneEn w vb e) (hne : v.ownBlock ≠ some vb) (hb : base ≤ w.heap.size) (hn : es.length ≤ 1000) :
    Calls Tryd.prog 26 #[v, .int .i64 (i : Nat), .slice (some ⟨vb, 0, none⟩) 1 1] w fun x w' => ∃ v', x = .returned v' ∧ OwnEn w' base v' (es.take i ++ e :: es.drop i) ∧ w.grownBy w' v.ownBlock := by
  by_cases c : i = es.length
  · subst c
    rw [List.take_length, List.drop_length]
    exact insert_end w base v es ho vb e hv hb hn
  · rcases ho.held with ⟨rfl, rfl⟩ | ⟨g, cap, rest, rfl, hg, hh, hl, hc⟩
    · simp at hi c; omega
    · rcases Nat.lt_or_ge cap (es.length + 1) with h | h
      · exact insert_grow w base g cap es rest hh hl hc hb i (by omega) h vb e hv hn
      · exact insert_room w base g cap es rest hh hl hc hg i (by omega) h vb e hv (fun e => hne (by rw [e]; rfl)) hn
end Go.Proofs.YtnogmgnbhcmajaaDoor

namespace Go.Proofs.YtnogmgnbhcmajaaDoor
open Go.RowKit Wal

theorem step_append_run {P : Program} {ops : Array Oper} {o : Oper} {a : Act} {w : World} {K : Act → World → Prop} {Q : Exit → Act → World → Prop} {E : Prop}
    (hg : o.guard = none) (d x : Operand) (dT sT : TypeId) (hop : o.op = Op.call { callee := Callee.builtin Builtin.append, args := #[d, x], argTypes := #[dT, sT] })
    (v u : Value) (hd : a.eval d = v) (hx : a.eval x = u) {v' : Value} {w' : World} (hr : (Builtin.append_ #[dT, sT] o.type #[v, u]).run P w = .ok v' w') (hK : K (a.put o.dst v') w') :
    if Region.wanted o (yielded ops a.tmps) = true then Oper.wp P o a w K Q else E := by
  have hw : Region.wanted o (yielded ops a.tmps) = true := by simp [Region.wanted, hg]
  rw [if_pos hw]
  exact Lib.wp_append_run w d x dT sT hop v u hd hx v' w' hr hK
theorem place_gen {A X V C : List Value} (h : V.length + C.length ≤ X.length) : splice (splice (A ++ X) (A.length + V.length) C) A.length V = A ++ V ++ C ++ X.drop (V.length + C.length) := by
  rw [splice_far, splice_next]
  have e : (X.take V.length ++ C ++ X.drop (V.length + C.length)).drop V.length = C ++ X.drop (V.length + C.length) := by
    rw [List.append_assoc, List.drop_left' (by rw [List.length_take]; omega)]
  rw [e]
  simp only [List.append_assoc]
theorem next_gen {A X V C : List Value} : splice (splice (A ++ X) A.length V) (A.length + V.length) C = A ++ V ++ C ++ X.drop (V.length + C.length) := by
  rw [splice_next, ← List.length_append, splice_next, List.drop_drop]
theorem keep_gen {P Y Z : List Value} {o : Nat} (h : P.length ≤ o) : ∃ Y', splice (P ++ Y) o Z = P ++ Y' := by
  have := splice_far (A := P) (r := Y) (k := o - P.length) (C := Z)
  rw [show P.length + (o - P.length) = o by omega] at this
  exact ⟨_, this⟩
theorem splice_behind {cur vs : List Value} {o x : Nat} (h : o + vs.length ≤ x) (ho : o ≤ cur.length) : (splice cur o vs)[x]? = cur[x]? := by
  unfold splice
  rw [List.getElem?_append_right (by rw [List.length_append, List.length_take]; omega), List.getElem?_drop]
  congr 1
  rw [List.length_append, List.length_take]
  omega
/-- Entries that lie in another block than g, or nowhere. -/
structure Src (w : World) (g : Nat) (A : Option Addr) (l : List En) : Prop where
  at_ : EAt w A l
  none_ : A = none → l = []
  block : ∀ a, A = some a → a.spot = none ∧ a.block ≠ g ∧ ∃ cs, Held w a.block 77 cs ∧ cs.size ≠ 0
theorem EAt.only {w w' : World} {g : Nat} {A : Option Addr} {l : List En} (h : EAt w A l) (k : Only [g] w w') (hb : ∀ a, A = some a → a.block ≠ g) : EAt w' A l := fun hp => by
  obtain ⟨b, off, e, hl, hc⟩ := h hp
  have hne := hb _ e
  exact ⟨b, off, e, Nat.lt_of_lt_of_le hl k.size, fun j u hu => (k.cell (p := ⟨b, off + j, none⟩) hl (by simpa using hne)).trans (hc j u hu)⟩
theorem Src.only {w w' : World} {g : Nat} {A : Option Addr} {l : List En} (h : Src w g A l) (k : Only [g] w w') : Src w' g A l :=
  ⟨h.at_.only k (fun a ha => (h.block a ha).2.1), h.none_, fun a ha => by
    obtain ⟨h1, h2, cs, h3, h4⟩ := h.block a ha
    exact ⟨h1, h2, cs, h3.only k (by simpa using h2), h4⟩⟩
theorem src_of {w : World} {base g : Nat} {A : Option Addr} {l : List En} {c : Nat} (h : OwnEn w base (.slice A l.length c) l) (hne : (Value.slice A l.length c).ownBlock ≠ some g) (hp : A ≠ none → l ≠ []) : Src w g A l := by
  rcases h.held with ⟨e, el⟩ | ⟨b, cap, rest, e, _, hh, hl, _⟩
  · injection e with e1 _ _
    subst e1
    exact ⟨fun hp => by rw [el] at hp; exact absurd hp (Nat.lt_irrefl 0), fun _ => el, fun a ha => (by cases ha)⟩
  · injection e with e1 _ _
    subst e1
    refine ⟨row_at hh, fun h => (by cases h), fun a ha => ?_⟩
    injection ha with ha
    subst ha
    refine ⟨rfl, fun e => hne (by rw [← e]; rfl), _, hh, ?_⟩
    have hl0 := List.length_pos_iff.2 (hp (by simp))
    rw [List.size_toArray, List.length_append, rowEn_length]
    omega
/-- copy(row, entries), where they all fit. -/
theorem run_copy_src {w : World} {g : Nat} {cur : List Value} (h : EHeld w g cur) (o dLen dCap : Nat) (A : Option Addr) (c : Nat) (l : List En) (hs : Src w g A l) (hl : l.length ≤ dLen) (hfit : o + l.length * 2 ≤ cur.length) (ty : TypeId) :
    (Builtin.copy_ #[74, 74] ty #[.slice (some ⟨g, o, none⟩) dLen dCap, .slice A l.length c]).run Tryd.prog w = .ok (goInt l.length) (w.setCells g o (rowEn l)) := by
  cases A with
  | none =>
    have := hs.none_ rfl
    subst this
    obtain ⟨i, hi, hz, hsize, hby⟩ := info_parts infoEn
    simp [Builtin.copy_, run_underlying Tryd.underlying74, Builtin.lenOf, Builtin.firstCells, sizeOf, typeInfo, hi, storeCells, rowEn, World.setCells]
  | some a =>
    have hm : Nat.min l.length dLen = l.length := Nat.min_eq_left hl
    have := run_copy_e h o dLen dCap a l.length c l hm.symm hs.at_ hfit (hs.block a rfl).1 ty
    rw [hm] at this
    exact this
theorem entZero (w : World) : (zeroValue 77).run Tryd.prog w = .ok (.agg #[.string ⟨#[]⟩, .string ⟨#[]⟩]) w := (zero_of_info zeroEn).1 w
def zerosL (n : Nat) : List Value := (Builtin.zeroCells (Value.agg #[.string ⟨#[]⟩, .string ⟨#[]⟩]).cells n).toList
theorem zerosL_one (n : Nat) : ∀ v ∈ zerosL n, v.oneCell' = true := fun v hv => by
  unfold zerosL Builtin.zeroCells at hv
  rw [Array.toList_map] at hv
  obtain ⟨i, _, rfl⟩ := List.mem_map.1 hv
  have : i % (Value.agg #[.string ⟨#[]⟩, .string ⟨#[]⟩]).cells.size < 2 := Nat.mod_lt _ (by decide)
  generalize i % (Value.agg #[.string ⟨#[]⟩, .string ⟨#[]⟩]).cells.size = k at this
  rcases k with _ | _ | k
  · rfl
  · rfl
  · omega
theorem run_clear_e {w : World} {g : Nat} {cur : List Value} (h : EHeld w g cur) (o n c : Nat) (hfit : o + n * 2 ≤ cur.length) (hn : 0 < n) (ty : TypeId) :
    (Builtin.clear_ #[74] ty #[.slice (some ⟨g, o, none⟩) n c]).run Tryd.prog w = .ok (.tuple #[]) (w.setCells g o (zerosL n)) := by
  have zl : (zerosL n).length = n * 2 := zeros_length n
  refine run_clear_wide w 74 77 ty (.agg #[.string ⟨#[]⟩, .string ⟨#[]⟩]) Tryd.underlying74 entZero g o n c hn (zerosL n) rfl (zerosL_one n) (fun j hj => ?_) (fun j hj => Held.frozen h _)
  rw [zl] at hj
  rw [h.cell_, List.getElem?_eq_getElem (by omega)]
  rfl
theorem run_clear_0 (w : World) (A : Option Addr) (c : Nat) (ty : TypeId) : (Builtin.clear_ #[74] ty #[.slice A 0 c]).run Tryd.prog w = .ok (.tuple #[]) w := by
  cases A <;> simp [Builtin.clear_, run_underlying Tryd.underlying74]
/-- The row's entries behind the j-th. -/
theorem row_from {w : World} {g : Nat} {es : List En} {rest : List Value} (h : EHeld w g (rowEn es ++ rest)) (j : Nat) : EAt w (some ⟨g, j * 2, none⟩) (es.drop j) := by
  have := (row_at h).drop_ j
  rwa [Nat.zero_add] at this
theorem rowEn_cut (es : List En) (rest : List Value) (i : Nat) : rowEn es ++ rest = rowEn (es.take i) ++ (rowEn (es.drop i) ++ rest) := by
  rw [← List.append_assoc, ← rowEn_append, List.take_append_drop]
/-- What a row in place is at the end. -/
theorem own_place {w w' : World} {base g cap : Nat} {A V C : List En} {Y : List Value} (h : EHeld w' g (rowEn A ++ rowEn V ++ rowEn C ++ Y)) (o : Only [g] w w') (hl : (rowEn A ++ rowEn V ++ rowEn C ++ Y).length = cap * 2) (hc : cap ≤ maxLen) (hg : base ≤ g) :
    OwnEn w' base (.slice (some ⟨g, 0, none⟩) (A.length + V.length + C.length) cap) (A ++ V ++ C) ∧ w.grownBy w' (some g) := by
  rw [← rowEn_append, ← rowEn_append] at h hl
  have := h.own hl hc hg
  rw [List.length_append, List.length_append] at this
  exact ⟨this, grown_of_only o⟩
end Go.Proofs.YtnogmgnbhcmajaaDoor
