/-
  BtreeMem: the law's two rows in memory: a row of bool and a row of string of the call's own; an element appended, set, read. · btree.Mem: Write of a block that isn't there, and of more bytes than a block holds. · BtreeMem: the store, beside a change of the law's rows; and the three together.
-/
import Derived.Test.YtnogmgnbhcmajaaDoorQBm1
import Derived.Test.YtnogmgnbhcmajaaDoorQWalNum
import Derived.Test.YtnogmgnbhcmajaaDoorQA30
namespace Go.Proofs.YtnogmgnbhcmajaaDoor
open Go.RowKit Wal

theorem infoB1 : (Tryd.prog.info? 4).map (fun i => (i.zero, i.size, i.bytes)) = some (some (.bool false), 1, 1) := by kernel_rfl
theorem infoS1 : (Tryd.prog.info? 9).map (fun i => (i.zero, i.size, i.bytes)) = some (some (.string ⟨#[]⟩), 1, 16) := by kernel_rfl
/-- The row 'taken'. -/
def RowB (w : World) (base : Nat) (v : Value) (T : List Bool) : Prop := w.ownsRow base 4 1 v T.length (T.map Value.bool)
/-- The row 'data'. -/
def RowT (w : World) (base : Nat) (v : Value) (D : List (List Nat)) : Prop := w.ownsRow base 9 1 v D.length (D.map strV)
section
variable {w w' : World} {base : Nat} {v : Value} {T : List Bool} {D : List (List Nat)}
theorem RowB.nil (w : World) (base : Nat) : RowB w base (.slice none 0 0) [] := ⟨rfl, .inl ⟨rfl, rfl⟩⟩
theorem RowT.nil (w : World) (base : Nat) : RowT w base (.slice none 0 0) [] := ⟨rfl, .inl ⟨rfl, rfl⟩⟩
theorem RowB.form (h : RowB w base v T) : ∃ A c, v = .slice A T.length c ∧ (0 < T.length → ∃ g, A = some ⟨g, 0, none⟩ ∧ base ≤ g ∧ g < w.heap.size) := by
  rcases h.2 with ⟨rfl, h0⟩ | ⟨g, cap, cur, rfl, hg, hh, hn, hcap, hsz, htake⟩
  · exact ⟨none, 0, by rw [h0], fun hp => by omega⟩
  · exact ⟨_, cap, rfl, fun _ => ⟨g, rfl, hg, (Array.getElem?_eq_some_iff.1 hh).1⟩⟩
theorem RowT.form (h : RowT w base v D) : ∃ A c, v = .slice A D.length c ∧ (0 < D.length → ∃ g, A = some ⟨g, 0, none⟩ ∧ base ≤ g ∧ g < w.heap.size) := by
  rcases h.2 with ⟨rfl, h0⟩ | ⟨g, cap, cur, rfl, hg, hh, hn, hcap, hsz, htake⟩
  · exact ⟨none, 0, by rw [h0], fun hp => by omega⟩
  · exact ⟨_, cap, rfl, fun _ => ⟨g, rfl, hg, (Array.getElem?_eq_some_iff.1 hh).1⟩⟩
theorem RowB.at_ {g c : Nat} {b : Bool} (h : RowB w base (.slice (some ⟨g, 0, none⟩) T.length c) T) (j : Nat) (hj : T[j]? = some b) : w.cell? ⟨g, j, none⟩ = some (.bool b) := by
  have := (List.getElem?_eq_some_iff.1 hj).1
  rw [World.ownsRow.cellAt h j (by omega), List.getElem?_map, hj]
  rfl
theorem RowT.at_ {g c : Nat} {l : List Nat} (h : RowT w base (.slice (some ⟨g, 0, none⟩) D.length c) D) (j : Nat) (hj : D[j]? = some l) : w.cell? ⟨g, j, none⟩ = some (strV l) := by
  have := (List.getElem?_eq_some_iff.1 hj).1
  rw [World.ownsRow.cellAt h j (by omega), List.getElem?_map, hj]
  rfl
theorem RowB.set_ {g c : Nat} (h : RowB w base (.slice (some ⟨g, 0, none⟩) T.length c) T) (j : Nat) (b : Bool) : RowB (w.setCell ⟨g, j, none⟩ (.bool b)) base (.slice (some ⟨g, 0, none⟩) T.length c) (T.set j b) ∧ w.grownBy (w.setCell ⟨g, j, none⟩ (.bool b)) (some g) := by
  obtain ⟨h1, h2⟩ := World.ownsRow.stored h j (.bool b)
  exact ⟨by unfold RowB; rw [List.length_set, List.map_set]; exact h1, h2⟩
theorem RowT.set_ {g c : Nat} (h : RowT w base (.slice (some ⟨g, 0, none⟩) D.length c) D) (j : Nat) (l : List Nat) : RowT (w.setCell ⟨g, j, none⟩ (strV l)) base (.slice (some ⟨g, 0, none⟩) D.length c) (D.set j l) ∧ w.grownBy (w.setCell ⟨g, j, none⟩ (strV l)) (some g) := by
  obtain ⟨h1, h2⟩ := World.ownsRow.stored h j (strV l)
  exact ⟨by unfold RowT; rw [List.length_set, List.map_set]; exact h1, h2⟩
theorem RowB.kp {B : Nat} (h : RowB w base v T) (k : Kp B w w') : RowB w' base v T := k.row h (by decide) (by decide)
theorem RowT.kp {B : Nat} (h : RowT w base v D) (k : Kp B w w') : RowT w' base v D := k.row h (by decide) (by decide)
theorem RowB.beside {r : Option Nat} (h : RowB w base v T) (hg : w.grownBy w' r) (hne : v.ownBlock = none ∨ v.ownBlock ≠ r) : RowB w' base v T := World.ownsRow.kept h hg hne
theorem RowT.beside {r : Option Nat} (h : RowT w base v D) (hg : w.grownBy w' r) (hne : v.ownBlock = none ∨ v.ownBlock ≠ r) : RowT w' base v D := World.ownsRow.kept h hg hne
/-- The two rows lie in blocks of their own. -/
theorem rows_apart {v' : Value} (h : RowB w base v T) (k : RowT w base v' D) : v.ownBlock = none ∨ v.ownBlock ≠ v'.ownBlock := by
  rcases h.2 with ⟨rfl, _⟩ | ⟨g, cap, cur, rfl, _, hh, _⟩
  · exact .inl rfl
  · rcases k.2 with ⟨rfl, _⟩ | ⟨g', cap', cur', rfl, _, hh', _⟩
    · exact .inr (by simp [Value.ownBlock])
    · refine .inr (fun e => ?_)
      have e : g = g' := by simpa [Value.ownBlock] using e
      subst e
      rw [hh] at hh'
      injection hh' with hh'
      injection hh' with _ e _
      exact absurd e (by decide)
set_option maxRecDepth 100000 in
theorem wpList_append_b1 {ops : Array Oper} {rest : List Oper} {o : Oper} {a : Act} {Q : Exit → Act → World → Prop} (hgd : o.guard = none) (s x : Operand)
    (ho : o.op = .call { callee := .builtin .append, args := #[s, x], argTypes := #[26, 26] })
    (base : Nat) (v : Value) (T : List Bool) (hs : a.eval s = v) (hown : RowB w base v T)
    (g c : Nat) (b : Bool) (hx : a.eval x = .slice (some ⟨g, 0, none⟩) 1 c) (hc : w.cell? ⟨g, 0, none⟩ = some (.bool b)) (hr : T.length ≤ 100000) (hbase : base ≤ w.heap.size)
    (h : ∀ v' w', RowB w' base v' (T ++ [b]) → w.grownBy w' v.ownBlock → (v'.ownBlock = v.ownBlock ∨ v'.ownBlock = some w.heap.size) → wpList Tryd.prog ops Q rest (a.put o.dst v') w') : wpList Tryd.prog ops Q (o :: rest) a w := by
  obtain ⟨i, hi, hz, hsize, hby⟩ := info_parts infoB1
  obtain ⟨v', w', hrun, h2, h3, _, h5⟩ := run_append_own_at (P := Tryd.prog) w base 26 o.type 4 i (.bool false) 1 1 Tryd.underlying26 hi hz hsize hby rfl (by omega) v T.length (T.map Value.bool) hown ⟨g, 0, none⟩ 1 c [.bool b] rfl
    (fun j u hu => by
      rcases j with _ | j
      · rw [WideShapes.add_plain]; injection hu with hu; rw [← hu]; exact hc
      · simp at hu)
    (fun u hu => by rw [List.mem_singleton.1 hu]; rfl) (by simp only [maxLen]; omega) (by omega) hbase
  refine wpList_plain hgd fun _ hK => ?_
  unfold Oper.wp execOp
  simp only [ho, resolve, invoke, builtin, Sem.run_bind, Sem.run_pure, Result.andThen_ok, List.map_toArray, List.map_cons, List.map_nil, hs, hx, hrun]
  exact hK _ _ (h v' w' (by unfold RowB; rw [List.length_append, List.map_append]; exact h2) h3 h5)
set_option maxRecDepth 100000 in
theorem wpList_append_t1 {ops : Array Oper} {rest : List Oper} {o : Oper} {a : Act} {Q : Exit → Act → World → Prop} (hgd : o.guard = none) (s x : Operand)
    (ho : o.op = .call { callee := .builtin .append, args := #[s, x], argTypes := #[27, 27] })
    (base : Nat) (v : Value) (D : List (List Nat)) (hs : a.eval s = v) (hown : RowT w base v D)
    (g c : Nat) (l : List Nat) (hx : a.eval x = .slice (some ⟨g, 0, none⟩) 1 c) (hc : w.cell? ⟨g, 0, none⟩ = some (strV l)) (hr : D.length ≤ 100000) (hbase : base ≤ w.heap.size)
    (h : ∀ v' w', RowT w' base v' (D ++ [l]) → w.grownBy w' v.ownBlock → (v'.ownBlock = v.ownBlock ∨ v'.ownBlock = some w.heap.size) → wpList Tryd.prog ops Q rest (a.put o.dst v') w') : wpList Tryd.prog ops Q (o :: rest) a w := by
  obtain ⟨i, hi, hz, hsize, hby⟩ := info_parts infoS1
  obtain ⟨v', w', hrun, h2, h3, _, h5⟩ := run_append_own_at (P := Tryd.prog) w base 27 o.type 9 i (.string ⟨#[]⟩) 1 16 Tryd.underlying27 hi hz hsize hby rfl (by omega) v D.length (D.map strV) hown ⟨g, 0, none⟩ 1 c [strV l] rfl
    (fun j u hu => by
      rcases j with _ | j
      · rw [WideShapes.add_plain]; injection hu with hu; rw [← hu]; exact hc
      · simp at hu)
    (fun u hu => by rw [List.mem_singleton.1 hu]; rfl) (by simp only [maxLen]; omega) (by omega) hbase
  refine wpList_plain hgd fun _ hK => ?_
  unfold Oper.wp execOp
  simp only [ho, resolve, invoke, builtin, Sem.run_bind, Sem.run_pure, Result.andThen_ok, List.map_toArray, List.map_cons, List.map_nil, hs, hx, hrun]
  exact hK _ _ (h v' w' (by unfold RowT; rw [List.length_append, List.map_append]; exact h2) h3 h5)
end
end Go.Proofs.YtnogmgnbhcmajaaDoor

namespace Go.Proofs.YtnogmgnbhcmajaaDoor
open Go.RowKit Wal

set_option maxRecDepth 100000 in
theorem write_no (B : Nat) (w : World) (p n : Nat) (f : Nat → Option KB) (h : MemAt B w p n f) (b : Int) (h1 : -9223372036854775808 ≤ b) (h2 : b ≤ 9223372036854775807) (hf : ∀ i : Nat, b = (i : Int) + 1 → f i = none) (A : Option Addr) (m c : Nat) :
    Calls Tryd.prog 9 #[.pointer (some ⟨p, 0, none⟩), .int .i64 b, .slice A m c] w fun e w' => e = .returned (.int .i64 1) ∧ w = w' := by
  obtain ⟨g, ad, h⟩ := h
  have FD := Lib.hid (find_no B w p g n ad f h b h1 h2 hf)
  clear h hf
  go_enter Tryd.func9, Tryd.ntmps9
  go_wp2_with fail
  refine FD.out.mono ?_
  rintro e w' ⟨rfl, rfl⟩
  clear FD
  go_wp2_with fail
  go_ret
  exact ⟨rfl, rfl⟩
set_option maxRecDepth 100000 in
theorem write_big (B : Nat) (w : World) (p n : Nat) (f : Nat → Option KB) (h : MemAt B w p n f) (i : Nat) (k : KB) (hf : f i = some k) (A : Option Addr) (m c : Nat) (hm : 512 < m) :
    Calls Tryd.prog 9 #[.pointer (some ⟨p, 0, none⟩), .int .i64 ((i : Int) + 1), .slice A m c] w fun e w' => e = .returned (.int .i64 1) ∧ w = w' := by
  obtain ⟨g, ad, h⟩ := h
  have FD := Lib.hid (find_yes B w p g n ad f h i k hf)
  have z1 : (512 : Int) < (m : Int) := by omega
  clear h hf
  go_enter Tryd.func9, Tryd.ntmps9
  go_wp2_with fail
  refine FD.out.mono ?_
  rintro e w' ⟨rfl, rfl⟩
  clear FD
  go_wp2_with fail
  go_ret
  exact ⟨rfl, rfl⟩
end Go.Proofs.YtnogmgnbhcmajaaDoor

namespace Go.Proofs.YtnogmgnbhcmajaaDoor
open Go.RowKit Wal

section
variable {w w' : World} {B : Nat} {v v' : Value} {T : List Bool} {D : List (List Nat)} {p n : Nat} {f : Nat → Option KB}
theorem RowB.grew (h : RowB w B v T) (hg : w.grownBy w' v.ownBlock) : KpS [4] B w w' := (KpS.refl _ B w).grown h hg (by simp) (Nat.le_refl _)
theorem RowT.grew (h : RowT w B v D) (hg : w.grownBy w' v.ownBlock) : KpS [9] B w w' := (KpS.refl _ B w).grown h hg (by simp) (Nat.le_refl _)
theorem RowB.mem (h : RowB w B v T) (hg : w.grownBy w' v.ownBlock) (m : MemAt B w p n f) : MemAt B w' p n f := (h.grew hg).mem m (by decide) (by decide) (by decide)
theorem RowT.mem (h : RowT w B v D) (hg : w.grownBy w' v.ownBlock) (m : MemAt B w p n f) : MemAt B w' p n f := (h.grew hg).mem m (by decide) (by decide) (by decide)
/-- The store and the law's two rows. -/
structure Three (B : Nat) (w : World) (p n : Nat) (f : Nat → Option KB) (v v' : Value) (T : List Bool) (D : List (List Nat)) : Prop where
  mem : MemAt B w p n f
  tk : RowB w B v T
  dt : RowT w B v' D
theorem Three.under (h : Three B w p n f v v' T D) (k : Below w.heap.size w w') : Three B w' p n f v v' T D := ⟨h.mem.under k, h.tk.kp (Kp.under (B := B) k), h.dt.kp (Kp.under (B := B) k)⟩
/-- What a call of the store leaves. -/
theorem Three.call {f' : Nat → Option KB} (h : Three B w p n f v v' T D) (m : MemAt B w' p n f') (k : Kp B w w') : Three B w' p n f' v v' T D := ⟨m, h.tk.kp k, h.dt.kp k⟩
/-- 'taken' has turned. -/
theorem Three.turnB {u : Value} {T' : List Bool} (h : Three B w p n f v v' T D) (hg : w.grownBy w' v.ownBlock) (ho : RowB w' B u T') : Three B w' p n f u v' T' D :=
  ⟨h.tk.mem hg h.mem, ho, h.dt.beside hg (by rcases rows_apart h.tk h.dt with e | e
                                             · rcases h.dt.2 with ⟨rfl, _⟩ | ⟨g, cap, cur, rfl, _⟩
                                               · exact .inl rfl
                                               · exact .inr (by rw [e]; simp [Value.ownBlock])
                                             · exact .inr (fun c => e c.symm))⟩
/-- 'data' has turned. -/
theorem Three.turnT {u : Value} {D' : List (List Nat)} (h : Three B w p n f v v' T D) (hg : w.grownBy w' v'.ownBlock) (ho : RowT w' B u D') : Three B w' p n f v u T D' :=
  ⟨h.dt.mem hg h.mem, h.tk.beside hg (rows_apart h.tk h.dt), ho⟩
end
end Go.Proofs.YtnogmgnbhcmajaaDoor
