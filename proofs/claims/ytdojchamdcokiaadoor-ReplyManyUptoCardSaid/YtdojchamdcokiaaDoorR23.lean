/-
  docketlaw12: what the rows list gives the walks; a start that fits; responses that came in.
-/
import Derived.Test.YtdojchamdcokiaaDoorR22
namespace Go.Proofs.YtdojchamdcokiaaDoor
open Go.ChangeShapes Go.WideShapes Go.ChangeAt Go.RowKit Go.Deep Reply

theorem own : ownKnob Tryd.prog.godebug = none := by kernel_rfl
theorem laidOut : laidOutB Tryd.prog = true := by kernel_rfl
/-- What all rows list. -/
noncomputable def lst : List (String × DataW Unit) := Rows.replyBackUptoRow.laid
theorem pow_is : (Rows.laid_internal_strconv_uint64pow10 : DataW Unit) = Lib.tabData .u64 Lib.pow10Tab := by kernel_rfl
theorem star : "*" ++ "errors.errorString" = "*errors.errorString" := by decide
theorem rowErr (u : TypeId) (h : Tryd.prog.typeName? 3 u = some "*errors.errorString") : u = 115 :=
  typeName_ptr_named (nm := "errors.errorString") (by rw [star]; kernel_rfl) (by kernel_rfl) (by decide) u (by rw [star]; exact h)
theorem env_of {W : World} (h : laidMetH Tryd.prog lst W) (hsh : W.ShapedOpen Tryd.prog) : Env W := by
  rw [MakeChecks.laidMetH_plain _ _ _ (by kernel_rfl)] at h
  have h2 := h.tail.tail
  have h4 := h2.tail.tail
  have h5 := h4.tail
  obtain ⟨a, s, hv, _, _, _⟩ := laid_sentinel h4 (g := 2) (ti := 46) (tp := 115) (te := 117) (ts := 9) (by kernel_rfl) (by kernel_rfl) Tryd.underlying46 rowErr Tryd.underlying115 Tryd.underlying117 rfl rfl Tryd.underlying9 (by kernel_rfl) (by kernel_rfl)
  obtain ⟨a2, s2, hv2, _, _, _⟩ := laid_sentinel h5 (g := 1) (ti := 46) (tp := 115) (te := 117) (ts := 9) (by kernel_rfl) (by kernel_rfl) Tryd.underlying46 rowErr Tryd.underlying115 Tryd.underlying117 rfl rfl Tryd.underlying9 (by kernel_rfl) (by kernel_rfl)
  refine ⟨cell_of_shapedOpen_int (P := Tryd.prog) (g := 0) (t := 3) (zero := #[.int .i64 0]) hsh (of_decide_eq_true (by kernel_rfl)) (by kernel_rfl) rfl (by kernel_rfl) (by kernel_rfl) Tryd.underlying3, ?_, ⟨.iface 115 (.pointer (some a2)), ?_, .inr ⟨_, _, rfl⟩⟩, ⟨.iface 115 (.pointer (some a)), ?_, .inr ⟨_, _, rfl⟩⟩⟩
  · have e : ∀ rest, laidMet Tryd.prog (("internal/strconv.uint64pow10", (Rows.laid_internal_strconv_uint64pow10 : DataW Unit)) :: rest) W → laidMet Tryd.prog (("internal/strconv.uint64pow10", Lib.tabData .u64 Lib.pow10Tab) :: rest) W := fun rest h => by rw [← pow_is]; exact h
    exact Lib.tabIs_of_head (g := 3) (t := 107) (e := 90) (n := 20) (by kernel_rfl) (by kernel_rfl) Tryd.underlying107 Tryd.underlying90 (by kernel_rfl) (by kernel_rfl) (e _ h2)
  · have := World.var?_cell (g := 1) (by kernel_rfl) hv2 0
    simpa using this
  · have := World.var?_cell (g := 2) (by kernel_rfl) hv 0
    simpa using this
/-- The heap that the program's own start leaves, and utf8's table beside: it meets the list. -/
noncomputable def startW (os : Os) : World :=
  { World.doorLaid Tryd.prog 72 os with heap := (World.doorLaid Tryd.prog 72 os).heap.modify 4 fun
      | .cells _ t frozen => .cells (Lib.firstTab.map fun z => Value.int .u8 z).toArray t frozen
      | o => o }
theorem door_met (os : Os) (args : Array Value) : laidMet Tryd.prog lst ((startW os).forCall (fun _ _ => 0) ⟨#[], args, []⟩).memory :=
  laidMet_of_run' 8 (by kernel_rfl) (by kernel_rfl)
section
variable {H : Type} {enc : TypeId × Value → H} {W : World}
theorem rowH_get {l : List (B × B)} {j : Nat} {u : Value} (h : (rowH l)[j]? = some u) : ∃ hi : j / 2 < l.length, (j % 2 = 0 → u = .string (S (l[j / 2]'hi).1)) ∧ (j % 2 = 1 → u = .string (S (l[j / 2]'hi).2)) := by
  have hj := (List.getElem?_eq_some_iff.1 h).1
  rw [rowH_length] at hj
  have hi : j / 2 < l.length := by omega
  obtain ⟨a, b⟩ := rowH_at l (j / 2) _ (List.getElem?_eq_getElem hi)
  refine ⟨hi, fun h0 => ?_, fun h1 => ?_⟩
  · rw [show j = j / 2 * 2 by omega, a] at h
    injection h with h
    rw [← h]
  · rw [show j = j / 2 * 2 + 1 by omega, b] at h
    injection h with h
    rw [← h]
def strOf : Value → B
  | .string s => s.data.toList
  | _ => []
theorem bulk_pairs (D0 D1 : Nat → DataW H) (a b : Nat → B) : ∀ (l : List Nat), (∀ i ∈ l, D0 i = .lit (.string (a i)) ∧ D1 i = .lit (.string (b i))) →
    l.length ≤ Rows.uptoBulkAll (H := H) (l.map fun i => .agg [D0 i, D1 i]) ∧ ∀ i ∈ l, (a i).length ≤ Rows.uptoBulkAll (H := H) (l.map fun i => .agg [D0 i, D1 i]) ∧ (b i).length ≤ Rows.uptoBulkAll (H := H) (l.map fun i => .agg [D0 i, D1 i])
  | [], _ => ⟨Nat.zero_le _, by simp⟩
  | i :: r, hd => by
    obtain ⟨h1, h2⟩ := bulk_pairs D0 D1 a b r (fun j hj => hd j (List.mem_cons_of_mem _ hj))
    obtain ⟨e0, e1⟩ := hd i (by simp)
    simp only [List.map_cons, Rows.uptoBulkAll, Rows.uptoBulk, List.length_cons, e0, e1]
    refine ⟨by omega, fun j hj => ?_⟩
    rcases List.mem_cons.1 hj with rfl | hj
    · omega
    · have := h2 j hj
      omega
theorem bulk_lines (D0 D1 : Nat → DataW H) (a b : Nat → B) : ∀ (l : List Nat), (∀ i ∈ l, D0 i = .lit (.string (a i)) ∧ D1 i = .lit (.string (b i))) →
    (hdrLines (l.map fun i => (a i, b i))).length ≤ 2 * Rows.uptoBulkAll (H := H) (l.map fun i => .agg [D0 i, D1 i])
  | [], _ => Nat.zero_le _
  | i :: r, hd => by
    have h1 := bulk_lines D0 D1 a b r (fun j hj => hd j (List.mem_cons_of_mem _ hj))
    obtain ⟨e0, e1⟩ := hd i (by simp)
    have e : hdrLines ((i :: r).map fun i => (a i, b i)) = hdrLine (a i, b i) ++ hdrLines (r.map fun i => (a i, b i)) := by unfold hdrLines; rw [List.map_cons, List.flatMap_cons]
    rw [e, List.length_append, hdrLine_len]
    simp only [List.map_cons, Rows.uptoBulkAll, Rows.uptoBulk, e0, e1]
    omega
theorem cellsH : Tryd.prog.cellsOf 37 = 2 := by kernel_rfl
theorem cellsR : Tryd.prog.cellsOf 24 = 5 := by kernel_rfl
theorem cells1 : Tryd.prog.cellsOf 9 = 1 ∧ Tryd.prog.cellsOf 3 = 1 ∧ Tryd.prog.cellsOf 4 = 1 ∧ Tryd.prog.cellsOf 22 = 1 := ⟨by kernel_rfl, by kernel_rfl, by kernel_rfl, by kernel_rfl⟩
set_option maxRecDepth 100000 in
/-- Headers, read. -/
theorem heads_of {n : Nat} {c : Value} {y : DataW H × List MemPlace} (hf : DataW.trod enc Tryd.prog W 0 (fun _ => true) true n 22 [c] = some y) :
    ∃ A k l, c = .slice A l.length k ∧ HAt W A l ∧ l.length ≤ Rows.uptoBulk y.1 ∧ (∀ h ∈ l, h.1.length ≤ Rows.uptoBulk y.1 ∧ h.2.length ≤ Rows.uptoBulk y.1) ∧ (hdrLines l).length ≤ 2 * Rows.uptoBulk y.1 := by
  rcases open_slice_pairs Tryd.underlying22 Tryd.underlying37 cellsH rfl rfl cells1.1 cells1.1 hf with ⟨hcs, hx⟩ | ⟨a, len, cap, m, n', V0, V1, D0, D1, P0, P1, hcs, _, hl, hm, hmm, hx, hc⟩
  · injection hcs with hcs
    exact ⟨none, 0, [], hcs, HAt.nil _ _, Nat.zero_le _, by simp, Nat.zero_le _⟩
  · injection hcs with hcs
    simp only [if_true] at hmm
    subst hmm
    have key : ∀ i, i < m → (V0 i = .string (S (strOf (V0 i))) ∧ D0 i = .lit (.string (strOf (V0 i)))) ∧ V1 i = .string (S (strOf (V1 i))) ∧ D1 i = .lit (.string (strOf (V1 i))) := fun i hi => by
      obtain ⟨_, _, t0, t1⟩ := hc i hi
      obtain ⟨s0, e0, x0, _⟩ := DataW.trod_string Tryd.underlying9 t0
      obtain ⟨s1, e1, x1, _⟩ := DataW.trod_string Tryd.underlying9 t1
      injection e0 with e0
      injection e1 with e1
      simp only [Prod.mk.injEq] at x0 x1
      rw [e0, e1]
      exact ⟨⟨rfl, x0.1⟩, rfl, x1.1⟩
    obtain ⟨b1, b2⟩ := bulk_pairs (H := H) D0 D1 (fun i => strOf (V0 i)) (fun i => strOf (V1 i)) (List.range len) (fun i hi => by
      have := key i (by have := List.mem_range.1 hi; omega)
      exact ⟨this.1.2, this.2.2⟩)
    have b3 := bulk_lines (H := H) D0 D1 (fun i => strOf (V0 i)) (fun i => strOf (V1 i)) (List.range len) (fun i hi => by
      have := key i (by have := List.mem_range.1 hi; omega)
      exact ⟨this.1.2, this.2.2⟩)
    have hy : Rows.uptoBulkAll (H := H) ((List.range len).map fun i => .agg [D0 i, D1 i]) ≤ Rows.uptoBulk y.1 := by
      rw [hx]
      simp only [Rows.uptoBulk]
      omega
    rw [List.length_range] at b1
    refine ⟨some a, m, (List.range len).map fun i => (strOf (V0 i), strOf (V1 i)), by rw [hcs]; simp, fun hp => ?_, by simp; omega, fun h hh => ?_, by omega⟩
    · have hp' : 0 < len := by simpa using hp
      obtain ⟨b, off, spot⟩ := a
      have h00 := (hc 0 (by omega)).1
      have hspot : spot = none := by
        have := World.cell?_spot h00
        simpa [Addr.add] using this
      subst hspot
      refine ⟨b, off, rfl, by simpa [Addr.add] using block_lt h00, fun j u hu => ?_⟩
      obtain ⟨hi, g0, g1⟩ := rowH_get hu
      have hi2 : j / 2 < len := by simpa using hi
      have hk := key (j / 2) (by omega)
      have hcj := hc (j / 2) (by omega)
      rw [WideShapes.add_plain] at hcj
      rw [WideShapes.add_plain] at hcj
      rcases Nat.mod_two_eq_zero_or_one j with h0 | h1
      · rw [g0 h0]
        have e : off + j = off + j / 2 * 2 := by omega
        rw [e, hcj.1, hk.1.1]
        simp [strOf, S]
      · rw [g1 h1]
        have e : off + j = off + (j / 2 * 2 + 1) := by omega
        rw [e, hcj.2.1, hk.2.1]
        simp [strOf, S]
    · obtain ⟨i, hi, rfl⟩ := List.mem_map.1 hh
      have := b2 i hi
      simp only
      omega
theorem trod_struct5 {P : Program} {w : World} {base : Nat} {spare : Nat → Bool} {held : Bool} {t : TypeId} {f0 f1 f2 f3 f4 : Field} {fuel : Nat} {cs : List Value} {x : DataW H × List MemPlace} (ht : P.underlying t = some (.struct #[f0, f1, f2, f3, f4])) (h : DataW.trod enc P w base spare held fuel t cs = some x) :
    ∃ y0 y1 y2 y3 y4 n, x.1 = .agg [y0.1, y1.1, y2.1, y3.1, y4.1] ∧ cs.length = P.cellsOf t ∧ DataW.trod enc P w base spare held n f0.type ((cs.drop f0.offset).take (P.cellsOf f0.type)) = some y0 ∧
      DataW.trod enc P w base spare held n f1.type ((cs.drop f1.offset).take (P.cellsOf f1.type)) = some y1 ∧ DataW.trod enc P w base spare held n f2.type ((cs.drop f2.offset).take (P.cellsOf f2.type)) = some y2 ∧
      DataW.trod enc P w base spare held n f3.type ((cs.drop f3.offset).take (P.cellsOf f3.type)) = some y3 ∧ DataW.trod enc P w base spare held n f4.type ((cs.drop f4.offset).take (P.cellsOf f4.type)) = some y4 := by
  obtain ⟨xs, n, _, rfl, hl, hlen, hf⟩ := DataW.trod_struct ht h
  match xs, hlen with
  | [y0, y1, y2, y3, y4], _ => exact ⟨y0, y1, y2, y3, y4, n, rfl, hl, by simpa using hf 0 f0 rfl, by simpa using hf 1 f1 rfl, by simpa using hf 2 f2 rfl, by simpa using hf 3 f3 rfl, by simpa using hf 4 f4 rfl⟩
theorem wf64 {z : Int} (h : (Lit.int .i64 z).wf = true) : -9223372036854775808 ≤ z ∧ z ≤ 9223372036854775807 := by
  simpa [Lit.wf, IntKind.min, IntKind.max, IntKind.signed, IntKind.bits] using h
set_option maxRecDepth 100000 in
/-- A response's cells, read. -/
theorem resp_of {n : Nat} {cs : List Value} {x : DataW H × List MemPlace} (ht : DataW.trod enc Tryd.prog W 0 (fun _ => true) true n 24 cs = some x) (hk : Rows.uptoBulk x.1 ≤ 1048576) :
    ∃ r A c, cs = [.int .i64 r.status, .slice A r.headers.length c, .string (S r.body), .bool r.head, .bool r.close] ∧ RFit r ∧ HAt W A r.headers ∧ (hdrLines r.headers).length + r.body.length ≤ 2 * Rows.uptoBulk x.1 := by
  obtain ⟨y0, y1, y2, y3, y4, n2, hx, hlen, h0, h1, h2, h3, h4⟩ := trod_struct5 Tryd.underlying24 ht
  rw [cellsR] at hlen
  rw [hx] at hk
  simp only [Rows.uptoBulk, Rows.uptoBulkAll] at hk
  match cs, hlen with
  | [c0, c1, c2, c3, c4], _ =>
    obtain ⟨k1, k2, k3, k4⟩ := cells1
    simp only [k2] at h0
    simp only [k4] at h1
    simp only [k1] at h2
    simp only [k3] at h3 h4
    obtain ⟨z0, e0, _, w0⟩ := DataW.trod_int Tryd.underlying3 (show DataW.trod enc Tryd.prog W 0 (fun _ => true) true n2 3 [c0] = some y0 from h0)
    obtain ⟨A, c, l, e1, hA, hl, hh, hz⟩ := heads_of (show DataW.trod enc Tryd.prog W 0 (fun _ => true) true n2 22 [c1] = some y1 from h1)
    obtain ⟨z2, e2, x2, _⟩ := DataW.trod_string Tryd.underlying9 (show DataW.trod enc Tryd.prog W 0 (fun _ => true) true n2 9 [c2] = some y2 from h2)
    obtain ⟨z3, e3, _⟩ := DataW.trod_bool Tryd.underlying4 (show DataW.trod enc Tryd.prog W 0 (fun _ => true) true n2 4 [c3] = some y3 from h3)
    obtain ⟨z4, e4, _⟩ := DataW.trod_bool Tryd.underlying4 (show DataW.trod enc Tryd.prog W 0 (fun _ => true) true n2 4 [c4] = some y4 from h4)
    injection e0 with e0
    injection e2 with e2
    injection e3 with e3
    injection e4 with e4
    have w64 := wf64 w0
    rw [x2] at hk
    simp only [Rows.uptoBulk] at hk
    refine ⟨⟨z0, l, z2.data.toList, z3, z4⟩, A, c, by rw [e0, e1, e2, e3, e4]; rfl, ⟨w64.1, w64.2, by simp only; omega, by simp only; omega, fun h hm => by have := hh h hm; omega⟩, hA, ?_⟩
    rw [hx]
    simp only [Rows.uptoBulk, Rows.uptoBulkAll]
    rw [x2]
    simp only [Rows.uptoBulk]
    omega
set_option maxRecDepth 100000 in
/-- An argument that is a response. -/
theorem open_resp {r : Reach} {b0 : Nat} {v : Value} {d : DataW H} {p : List MemPlace} (hv : Value.okWide Tryd.prog W r b0 24 v) (h : DataW.Trod enc Tryd.prog W 0 (fun _ => true) true 24 v d p) (hk : Rows.uptoBulk d ≤ 1048576) :
    ∃ r A c, v = rV r A c ∧ RFit r ∧ HAt W A r.headers := by
  obtain ⟨cs, rfl, _⟩ := okWide_struct Tryd.underlying24 hv
  obtain ⟨fuel, hf⟩ := h
  obtain ⟨r, A, c, hc, hF, hA, _⟩ := resp_of hf hk
  refine ⟨r, A, c, ?_, hF, hA⟩
  unfold rV
  congr 1
  exact Array.toList_inj.1 (by simpa [Value.cells] using hc)
end
end Go.Proofs.YtdojchamdcokiaaDoor
