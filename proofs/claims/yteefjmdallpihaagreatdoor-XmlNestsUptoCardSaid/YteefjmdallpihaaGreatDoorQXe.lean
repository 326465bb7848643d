/-
  xml: the writer: a strings.Builder that lies in it. · xml: the writer's add; inText, inValue; letters; attribute. · xml: the writer's attribute and element. · xml: write, Write.
-/
import Derived.Test.YteefjmdallpihaaGreatDoorQXd
import Derived.Test.YteefjmdallpihaaGreatDoorXmD
namespace Go.Proofs.YteefjmdallpihaaGreatDoor
open Go.RowKit Reply Go.Shelf

theorem bliesW : liesAt Tryz.prog Tryz.prog.depth 63 (2 / Tryz.prog.cellsOf 63) 0 61 1 = true := by kernel_rfl
theorem bneW : (63 : TypeId) ≠ 5 := by decide
set_option maxHeartbeats 1000000 in
set_option maxRecDepth 100000 in
theorem check_freshW (b : Nat) (w : World) (h0 : w.cell? ⟨b, 0, none⟩ = some (.pointer none)) (hsh : w.shape? b = some (63, 2)) (hfz : w.frozen? ⟨b, 0, none⟩ = false) :
    Calls Tryz.prog 92 #[.pointer (some ⟨b, 0, none⟩)] w fun e w' => e = .returned (.tuple #[]) ∧ w' = w.setCell ⟨b, 0, none⟩ (.pointer (some ⟨b, 0, none⟩)) := by
  obtain ⟨j, hj, hjs⟩ := Option.map_eq_some_iff.1 bsize
  go_enter Tryz.func92, Tryz.ntmps92
  go_wp2
  rw [Lib.run_to_unsafe w ⟨b, 0, none⟩ Tryz.underlying59 Tryz.underlying133 hj (by rw [hjs]; decide) hsh (Nat.zero_lt_succ 1)]
  simp only [Result.andThen]
  rw [Oper.upon_value]
  go_wp2
  rw [run_callFunc_extern Tryz.func104 (by kernel_rfl) (by kernel_rfl) (by kernel_rfl) (e := Extern.AbiNoEscape.same) (by kernel_rfl)]
  rw [Lib.run_noEscape]
  simp only [Result.andThen]
  rw [Oper.upon_value]
  go_wp2
  rw [Lib.run_from_unsafe w ⟨b, 0, none⟩ Tryz.underlying133 Tryz.underlying59 hj hsh bliesW]
  simp only [Result.andThen]
  rw [Oper.upon_value]
  go_wp2
  go_end0
  exact ⟨rfl, rfl⟩
/-- A writer in block b that has written so many bytes; its row lies from B on. -/
def Wtr (w : World) (B b : Nat) (l : Reply.B) : Prop := Lib.IsBuilderF 63 5 B b ((l.map fun c : UInt8 => c.toNat).map u8v) w
theorem Wtr.new (w : World) (B b : Nat) (hb : b = w.heap.size) (hB : B ≤ w.heap.size) : Wtr (w.alloc (.cells #[.pointer none, .slice none 0 0] 63)) B b [] := by
  subst hb
  exact .inl ⟨hB, .slice none 0 0, heap_alloc_new w _, World.ownsRowF_nil _ _ _ _, by simp [Value.ownBlock]⟩
theorem Wtr.below {w w' : World} {B b : Nat} {l : Reply.B} (h : Wtr w B b l) (k : Below w.heap.size w w') : Wtr w' B b l := by
  have key : ∀ p, Lib.BuilderAtF 63 5 B b p ((l.map fun c : UInt8 => c.toNat).map u8v) w → Lib.BuilderAtF 63 5 B b p ((l.map fun c : UInt8 => c.toNat).map u8v) w' := by
    rintro p ⟨hB, v, hb, hown, hne⟩
    refine ⟨hB, v, (k.block b (Array.getElem?_eq_some_iff.1 hb).1).trans hb, ⟨hown.1, ?_⟩, hne⟩
    rcases hown.2 with h0 | ⟨g, cap, cur, fz, hv, hg, hh, r⟩
    · exact .inl h0
    · exact .inr ⟨g, cap, cur, fz, hv, hg, (k.block g (Array.getElem?_eq_some_iff.1 hh).1).trans hh, r⟩
  exact h.elim (fun x => .inl (key _ x)) (fun x => .inr (key _ x))
theorem Wtr.lo {w : World} {B b : Nat} {l : Reply.B} (h : Wtr w B b l) : B ≤ b ∧ ∃ cs m, w.heap[b]? = some (.cells cs 63 m) := by
  rcases h with ⟨hB, v, hb, _⟩ | ⟨hB, v, hb, _⟩ <;> exact ⟨hB, _, _, hb⟩
theorem Wtr.cell {w : World} {B b : Nat} {l : Reply.B} (h : Wtr w B b l) : ∃ ao cp, w.cell? ⟨b, 1, none⟩ = some (.slice ao l.length cp) := by
  have key : ∀ p, Lib.BuilderAtF 63 5 B b p ((l.map fun c : UInt8 => c.toNat).map u8v) w → ∃ ao cp, w.cell? ⟨b, 1, none⟩ = some (.slice ao l.length cp) := by
    rintro p ⟨hB, v, hb, hown, hne⟩
    have hl : ((l.map fun c : UInt8 => c.toNat).map u8v).length = l.length := by simp
    rw [hl] at hown
    obtain ⟨ao, cp, rfl⟩ : ∃ ao cp, v = .slice ao l.length cp := by
      rcases hown.2 with ⟨hv, h0⟩ | ⟨g, cap, cur, fz, hv, _⟩
      · exact ⟨none, 0, by rw [hv, h0]⟩
      · exact ⟨_, _, hv⟩
    exact ⟨ao, cp, by rw [Lib.cell_of_heap hb]; rfl⟩
  exact h.elim (key _) (key _)
/-- Whatever is neither the writer nor a row of bytes is as it was. -/
def KW (b : Nat) (w w' : World) : Prop := w.heap.size ≤ w'.heap.size ∧ ∀ g o, w.heap[g]? = some o → g ≠ b → (∀ cs mk, o ≠ .cells cs 5 mk) → w'.heap[g]? = some o
theorem KW.refl (b : Nat) (w : World) : KW b w w := ⟨Nat.le_refl _, fun _ _ h _ _ => h⟩
theorem KW.trans {b : Nat} {u v w : World} (h : KW b u v) (k : KW b v w) : KW b u w := ⟨Nat.le_trans h.1 k.1, fun g o hg hb ho => k.2 g o (h.2 g o hg hb ho) hb ho⟩
theorem KW.set (b i : Nat) (w : World) (u : Value) : KW b w (w.setCell ⟨b, i, none⟩ u) := ⟨by simp [World.setCell], fun g _ hg hb _ => (Below.heap_setCell w ⟨b, i, none⟩ u g hb).trans hg⟩
theorem KW.below {b : Nat} {w w' : World} (h : Below w.heap.size w w') : KW b w w' := ⟨h.size, fun g _ hg _ _ => (h.block g (Array.getElem?_eq_some_iff.1 hg).1).trans hg⟩
theorem KW.grown {b B n : Nat} {w w' : World} {v : Value} {xs : List Value} (ho : w.ownsRowF B 5 1 v n xs) (hg : w.grownBy w' v.ownBlock) : KW b w w' := ⟨hg.size, fun g o hh _ ht => (hg.block g (Array.getElem?_eq_some_iff.1 hh).1 (fun e => by
  rcases ho.2 with ⟨rfl, _⟩ | ⟨g', cap, cur, fz, rfl, _, hh', _⟩
  · cases e
  · have e1 : g' = g := by simpa [Value.ownBlock] using e.symm
    subst e1
    rw [hh] at hh'
    injection hh' with hh'
    exact ht _ _ hh')).trans hh⟩
theorem KW.held {b q : Nat} {t : TypeId} {cs : Array Value} {w w' : World} (h : KW b w w') (k : Held w q t cs) (h1 : q ≠ b) (h2 : t ≠ 5) : Held w' q t cs := h.2 q _ k h1 (fun cs' mk e => by
  injection e with _ e _
  exact h2 e)
theorem checkW_any (B b : Nat) (bs : List Value) (w : World) (h : Lib.IsBuilderF 63 5 B b bs w) :
    Calls Tryz.prog 92 #[.pointer (some ⟨b, 0, none⟩)] w fun e w' => e = .returned (.tuple #[]) ∧ (Lib.BuilderAtF 63 5 B b (.pointer (some ⟨b, 0, none⟩)) bs w' ∧ Below B w w' ∧ KW b w w') := by
  rcases h with h | h
  · refine (check_freshW b w h.cell0 h.shape h.frozen0).mono ?_
    rintro e w' ⟨rfl, rfl⟩
    exact ⟨rfl, h.used _, (Below.refl B w).setCell (p := ⟨b, 0, none⟩) h.1 _, KW.set b 0 w _⟩
  · refine (check_used b w h.cell0).mono ?_
    rintro e w' ⟨rfl, rfl⟩
    exact ⟨rfl, h, Below.refl B _, KW.refl b _⟩
set_option maxHeartbeats 1000000 in
theorem lenW_any (B b : Nat) (l : Reply.B) (w : World) (h : Wtr w B b l) :
    Calls Tryz.prog 70 #[.pointer (some ⟨b, 0, none⟩)] w fun e w' => e = .returned (.int .i64 (l.length : Int)) ∧ w = w' := by
  obtain ⟨ao, cp, c1⟩ := h.cell
  clear h
  go_enter Tryz.func70, Tryz.ntmps70
  go_wp2_with fail
  go_ret
  exact ⟨rfl, rfl⟩
set_option maxHeartbeats 2000000 in
set_option maxRecDepth 100000 in
theorem wstringW_any (B b : Nat) (l m : Reply.B) (w : World) (h : Wtr w B b l) (hlen : l.length + m.length ≤ 1048576) (hBw : B ≤ w.heap.size) :
    Calls Tryz.prog 71 #[.pointer (some ⟨b, 0, none⟩), .string (S m)] w fun e w' => (∃ v, e = .returned v) ∧ Wtr w' B b (l ++ m) ∧ Below B w w' ∧ KW b w w' := by
  obtain ⟨i0, hi, hz0, hz1, hz2⟩ := info_parts info5
  obtain ⟨n, hn⟩ : ∃ y, y = (l.map fun x : UInt8 => x.toNat) := ⟨_, rfl⟩
  have hnl : n.length = l.length := by rw [hn, List.length_map]
  have h1 : Lib.IsBuilderF 63 5 B b (n.map u8v) w := by rw [hn]; exact h
  have CC := Lib.hid (checkW_any B b _ w h1)
  have HM := Lib.hid hn
  have HL : Hid ((n.map u8v).length = n.length) := by show _ = _; simp
  have SM : Hid (Lib.strCells (S m) = (m.map fun x : UInt8 => x.toNat).map u8v) := by show _ = _; rw [strCells_nums, nums_S]
  have SZ : Hid ((S m).size = m.length) := S_size m
  obtain ⟨s, hs⟩ : ∃ x, x = S m := ⟨_, rfl⟩
  rw [← hs] at SM SZ ⊢
  clear h hn h1 hs
  go_enter Tryz.func71, Tryz.ntmps71
  go_wp2_with fail
  refine CC.out.mono ?_
  rintro e w1 ⟨rfl, ⟨hB, v, hbk, hown, hne⟩, hb1, hk1⟩
  have c0 : w1.cell? ⟨b, 0, none⟩ = some (.pointer (some ⟨b, 0, none⟩)) := by rw [Lib.cell_of_heap hbk]; rfl
  have c1 : w1.cell? ⟨b, 1, none⟩ = some v := by rw [Lib.cell_of_heap hbk]; rfl
  clear CC
  go_wp2_with (at_builtin; refine Lib.wpList_append_own_stringF _ rfl _ _ 24 9 rfl B 5 i0 Tryz.underlying24 Tryz.underlying9 hi hz0 hz1 hz2 _ _ _ rfl hown s rfl ?q3 ?q4 ?q5 ?_)
  case q3 => rw [HL.out, SZ.out]; unfold maxLen; omega
  case q4 => rw [HL.out, SZ.out]; omega
  case q5 => have := hb1.size; omega
  intro v' w2 hown' hgrow _
  have hlt : b < w1.heap.size := (Array.getElem?_eq_some_iff.1 hbk).1
  have hb2 : w2.heap[b]? = some (.cells #[.pointer (some ⟨b, 0, none⟩), v] 63 (0, 0)) := by
    rw [hgrow.block b hlt (fun e => hne e.symm)]
    exact hbk
  have d0 : w2.cell? ⟨b, 0, none⟩ = some (.pointer (some ⟨b, 0, none⟩)) := by rw [Lib.cell_of_heap hb2]; rfl
  have d1 : w2.cell? ⟨b, 1, none⟩ = some v := by rw [Lib.cell_of_heap hb2]; rfl
  have f1 : w2.frozen? ⟨b, 1, none⟩ = false := Lib.frozen_of_heap hb2 1
  obtain ⟨ao, n', cap, rfl⟩ : ∃ ao n' cap, v' = .slice ao n' cap := by
    rcases hown'.2 with ⟨hv, _⟩ | ⟨g, cap, cur, fz, hv, _⟩
    · exact ⟨_, _, _, hv⟩
    · exact ⟨_, _, _, hv⟩
  go_wp2
  go_ret2
  refine ⟨⟨_, rfl⟩, .inr ?_, ?_, (hk1.trans (KW.grown hown hgrow)).trans (KW.set b 1 w2 _)⟩
  · have := Lib.BuilderAtF.put (T := 63) (e := 5) hB hb2 (bs' := n.map u8v ++ Lib.strCells s) (by simpa [Lib.strCells_length, hnl] using hown') bneW
    rw [List.map_append, List.map_append, ← HM.out, ← SM.out]
    exact this
  · exact (hb1.grown hgrow (by have := hb1.size; omega) (fun k hk => (hown.lt k hk).1)).setCell (p := ⟨b, 1, none⟩) hB _
set_option maxHeartbeats 2000000 in
set_option maxRecDepth 100000 in
/-- String, once something is written. -/
theorem stringW_any (B b : Nat) (l : Reply.B) (w : World) (h : Wtr w B b l) (h0 : l ≠ []) :
    Calls Tryz.prog 31 #[.pointer (some ⟨b, 0, none⟩)] w fun e w' => e = .returned (.string (S l)) ∧ Below B w w' := by
  obtain ⟨p, hAt⟩ : ∃ p, Lib.BuilderAtF 63 5 B b p ((l.map fun c : UInt8 => c.toNat).map u8v) w := by
    rcases h with h | h
    · exact ⟨_, h⟩
    · exact ⟨_, h⟩
  obtain ⟨hB, v, hbk, hown, hne⟩ := hAt
  have hl0 : l.length ≠ 0 := by simpa using h0
  have hl : ((l.map fun c : UInt8 => c.toNat).map u8v).length = l.length := by simp
  rw [hl] at hown
  obtain ⟨g, cap, cur, fz, rfl, hbg, hg, hfz, hnc, hcm, hcs, htake⟩ : ∃ g cap cur fz, v = .slice (some ⟨g, 0, none⟩) l.length cap ∧ B ≤ g ∧ w.heap[g]? = some (.cells cur 5 fz) ∧ fz.2 ≤ l.length * 1 ∧ l.length ≤ cap ∧ cap ≤ maxLen ∧ cur.size = cap * 1 ∧ cur.toList.take (l.length * 1) = (l.map fun c : UInt8 => c.toNat).map u8v := by
    rcases hown.2 with ⟨_, hz⟩ | ⟨g, cap, cur, fz, hv, r⟩
    · exact absurd hz hl0
    · exact ⟨g, cap, cur, fz, hv, r⟩
  have c1 : w.drew.cell? ⟨b, 1, none⟩ = some (.slice (some ⟨g, 0, none⟩) l.length cap) := by
    have : w.drew.heap[b]? = some (.cells #[p, .slice (some ⟨g, 0, none⟩) l.length cap] 63 (0, 0)) := hbk
    rw [Lib.cell_of_heap this]; rfl
  have hSD : (Builtin.unsafeSliceData_ #[24] 84 #[.slice (some ⟨g, 0, none⟩) l.length cap]).run Tryz.prog w.drew = .ok (.pointer (some ⟨g, 0, none⟩)) w.drew :=
    Lib.run_unsafeSliceData_row _ _ _ _ _ _ (by omega)
  have hUS : (Builtin.unsafeString_ #[84, 3] 9 #[.pointer (some ⟨g, 0, none⟩), .int .i64 l.length]).run Tryz.prog w.drew = .ok (.string ⟨l.toArray⟩) (w.drew.freeze ⟨g, 0, none⟩ l.length) := by
    refine Lib.run_unsafeString_row w.drew 84 3 9 5 Tryz.underlying84 (by kernel_rfl) g cur.size (by have hg' : w.drew.heap[g]? = some (.cells cur 5 fz) := hg; simp [World.shape?, hg']) l h0 (by omega) (by unfold maxLen at hcm; omega) ?_
    intro j x hx
    exact hown.cells (g := g) rfl j (.int .u8 x.toNat) (by simp [hx]; rfl)
  have mixed : Tryz.prog.follows Departure.mixedOrders = true := by kernel_rfl
  have FN : Hid (Below B w (w.drew.freeze ⟨g, 0, none⟩ l.length)) := Lib.below_freeze (Below.drew (Below.refl B w)) (p := ⟨g, 0, none⟩) hbg _
  clear hown hfz hnc hcm hcs htake hg hbk hne hbg h hl hl0 h0
  go_enter Tryz.func31, Tryz.ntmps31
  go_wp2
  go_region_o
  all_goals (go_wp2; go_ret; exact ⟨rfl, FN.out⟩)
end Go.Proofs.YteefjmdallpihaaGreatDoor

namespace Go.Proofs.YteefjmdallpihaaGreatDoor
open Go.RowKit Reply Go.Shelf

/-- A writer in block b, within a call that began in w0. -/
structure WrX (w0 w : World) (b : Nat) (l : Reply.B) : Prop where
  env : EnvX w0
  bel : Below w0.heap.size w0 w
  wt : Wtr w w0.heap.size b l
  few : l.length ≤ 65536
/-- What a call ends with that writes T. -/
def EndsW (w0 : World) (b : Nat) (l T : Reply.B) (e : Ending) (w' : World) : Prop := (l.length + T.length ≤ 65536 ∧ e = .returned (.tuple #[]) ∧ WrX w0 w' b (l ++ T)) ∨ (65536 < l.length + T.length ∧ e = .panicked [{ v := troubleX 5, recovered := false }])
/-- What a call leaves that writes T. -/
def PostW (w0 w : World) (b : Nat) (l T : Reply.B) (e : Ending) (w' : World) : Prop := Below w0.heap.size w0 w' ∧ KW b w w' ∧ EndsW w0 b l T e w'
section
variable {w0 w w' : World} {b : Nat} {l T : Reply.B}
theorem WrX.under (h : WrX w0 w b l) (k : Below w.heap.size w w') : WrX w0 w' b l := ⟨h.env, h.bel.trans (k.mono h.bel.size), h.wt.below k, h.few⟩
theorem PostW.bad {u : World} (h : PostW w0 u b l T (.panicked [{ v := troubleX 5, recovered := false }]) w') (k : KW b w u) {l0 T0 : Reply.B} (h2 : 65536 < l.length + T.length → 65536 < l0.length + T0.length) : PostW w0 w b l0 T0 (.panicked [{ v := troubleX 5, recovered := false }]) w' := by
  obtain ⟨h3, h4, h5⟩ := h
  refine ⟨h3, k.trans h4, .inr ⟨?_, rfl⟩⟩
  rcases h5 with ⟨_, e, _⟩ | ⟨h5, _⟩
  · cases e
  · exact h2 h5
set_option maxHeartbeats 2000000 in
theorem add_any (h : WrX w0 w b l) (s : Reply.B) (hs : s.length ≤ 524288) (u : ByteArray) (hu : u = S s) :
    Calls Tryz.prog 49 #[.pointer (some ⟨b, 0, none⟩), .string u] w (PostW w0 w b l s) := by
  subst hu
  have hn := h.few
  have LN := Lib.hid (lenW_any w0.heap.size b l w h.wt)
  have WS := Lib.hid (wstringW_any w0.heap.size b l s w h.wt (by omega) h.bel.size)
  have LS := S_size s
  have H := Lib.hid h
  obtain ⟨n, hnn⟩ : ∃ x, x = l.length := ⟨_, rfl⟩
  rw [← hnn] at LN hn
  have HN := Lib.hid hnn
  by_cases h5 : l.length + s.length ≤ 65536
  · have z : decide (((S s).size : Int) ≤ 65536 - (n : Int)) = true := decide_eq_true (by rw [LS]; omega)
    have z2 : ((S s).size : Int) ≤ 65536 - (n : Int) := by rw [LS]; omega
    have H5 := Lib.hid h5
    obtain ⟨t, ht⟩ : ∃ x, x = S s := ⟨_, rfl⟩
    rw [← ht] at z z2 WS ⊢
    clear h LS hnn h5 ht hs
    go_enter Tryz.func49, Tryz.ntmps49
    go_wp2_with fail
    refine LN.out.mono ?_
    rintro e w1 ⟨rfl, rfl⟩
    go_wp2_with fail
    refine (demand_ok _ _).mono ?_
    rintro e wx ⟨rfl, rfl⟩
    go_wp2_with fail
    refine WS.out.mono ?_
    rintro e w2 ⟨⟨v, rfl⟩, h2, b2, k2⟩
    have F : Hid (PostW w0 w b l s (.returned (.tuple #[])) w2) := ⟨H.out.bel.trans b2, k2, .inl ⟨H5.out, rfl, H.out.env, H.out.bel.trans b2, h2, by rw [List.length_append]; exact H5.out⟩⟩
    clear h2 b2 k2 WS LN
    go_wp2_with fail
    go_end0
    exact F.out
  · have z : decide (((S s).size : Int) ≤ 65536 - (n : Int)) = false := decide_eq_false (by rw [LS]; omega)
    have z2 : ¬ ((S s).size : Int) ≤ 65536 - (n : Int) := by rw [LS]; omega
    have H5 := Lib.hid h5
    obtain ⟨t, ht⟩ : ∃ x, x = S s := ⟨_, rfl⟩
    rw [← ht] at z z2 WS ⊢
    clear h LS hnn h5 ht hs
    go_enter Tryz.func49, Tryz.ntmps49
    go_wp2_with fail
    refine LN.out.mono ?_
    rintro e w1 ⟨rfl, rfl⟩
    go_wp2_with fail
    refine (demand_bad _ _).mono ?_
    rintro e wx ⟨rfl, rfl⟩
    exact ⟨rfl, H.out.bel, KW.refl _ _, .inr ⟨by have := H5.out; omega, rfl⟩⟩
end
/-- What inText and inValue answer. -/
def StandsX (f : FuncId) (v : Bool) : Prop := (∀ caps u, (callFunc f caps).run Tryz.prog u = .ok (.enter f caps) u) ∧ ∀ (w : World) (r : Nat), Xml.letter r = true → Calls Tryz.prog f #[.int .i32 (r : Int)] w fun e w' => e = .returned (.string (S (Xml.escR v r))) ∧ w = w'
theorem escR_eq {v : Bool} {r : Nat} {t : Reply.B} {u : ByteArray} (h : Xml.escR v r = t) (hu : u = S t) : Value.string u = .string (S (Xml.escR v r)) := by rw [h, hu]
set_option maxRecDepth 100000 in
set_option maxHeartbeats 4000000 in
theorem intext_any : StandsX 52 false := by
  refine ⟨fun _ _ => rfl, fun w r hr => ?_⟩
  have hcv : ∀ u, (convert 21 9 (.int .i32 (r : Int))).run Tryz.prog u = .ok (.string (S (Xml.utf8 r))) u := fun u => by rw [run_convert_int_string u _ _ _ _ (by kernel_rfl) Tryz.underlying9, Xml.encode_utf8 hr]; rfl
  have E : Hid (Xml.escR false r = if r = 38 then [38, 97, 109, 112, 59] else if r = 60 then [38, 108, 116, 59] else if r = 62 then [38, 103, 116, 59] else if r = 13 then [38, 35, 49, 51, 59] else Xml.utf8 r) := rfl
  rcases (show r = 38 ∨ r = 60 ∨ r = 62 ∨ r = 13 ∨ (r ≠ 38 ∧ r ≠ 60 ∧ r ≠ 62 ∧ r ≠ 13) by omega) with rfl | rfl | rfl | rfl | ⟨a, b, c, d⟩
  iterate 4
    · clear E hcv hr
      go_enter Tryz.func52, Tryz.ntmps52
      go_wp2
      go_ret
      exact ⟨rfl, rfl⟩
  · have f1 : ((r : Int) == 38) = false := by rw [beq_eq_false_iff_ne]; omega
    have f2 : ((r : Int) == 60) = false := by rw [beq_eq_false_iff_ne]; omega
    have f3 : ((r : Int) == 62) = false := by rw [beq_eq_false_iff_ne]; omega
    have f4 : ((r : Int) == 13) = false := by rw [beq_eq_false_iff_ne]; omega
    have F : Hid (Xml.escR false r = Xml.utf8 r) := E.out.trans (by rw [if_neg a, if_neg b, if_neg c, if_neg d])
    clear E a b c d hr
    go_enter Tryz.func52, Tryz.ntmps52
    go_wp2
    go_ret
    exact ⟨by rw [F.out]; rfl, rfl⟩
set_option maxRecDepth 100000 in
set_option maxHeartbeats 4000000 in
theorem invalue_any : StandsX 72 true := by
  refine ⟨fun _ _ => rfl, fun w r hr => ?_⟩
  have hcv : ∀ u, (convert 21 9 (.int .i32 (r : Int))).run Tryz.prog u = .ok (.string (S (Xml.utf8 r))) u := fun u => by rw [run_convert_int_string u _ _ _ _ (by kernel_rfl) Tryz.underlying9, Xml.encode_utf8 hr]; rfl
  have E : Hid (Xml.escR true r = if r = 38 then [38, 97, 109, 112, 59] else if r = 60 then [38, 108, 116, 59] else if r = 34 then [38, 113, 117, 111, 116, 59] else if r = 9 then [38, 35, 57, 59] else if r = 10 then [38, 35, 49, 48, 59] else if r = 13 then [38, 35, 49, 51, 59] else Xml.utf8 r) := rfl
  rcases (show r = 38 ∨ r = 60 ∨ r = 34 ∨ r = 9 ∨ r = 10 ∨ r = 13 ∨ (r ≠ 38 ∧ r ≠ 60 ∧ r ≠ 34 ∧ r ≠ 9 ∧ r ≠ 10 ∧ r ≠ 13) by omega) with rfl | rfl | rfl | rfl | rfl | rfl | ⟨a, b, c, d, e, f⟩
  iterate 6
    · clear E hcv hr
      go_enter Tryz.func72, Tryz.ntmps72
      go_wp2
      go_ret
      exact ⟨rfl, rfl⟩
  · have f1 : ((r : Int) == 38) = false := by rw [beq_eq_false_iff_ne]; omega
    have f2 : ((r : Int) == 60) = false := by rw [beq_eq_false_iff_ne]; omega
    have f3 : ((r : Int) == 34) = false := by rw [beq_eq_false_iff_ne]; omega
    have f4 : ((r : Int) == 9) = false := by rw [beq_eq_false_iff_ne]; omega
    have f5 : ((r : Int) == 10) = false := by rw [beq_eq_false_iff_ne]; omega
    have f6 : ((r : Int) == 13) = false := by rw [beq_eq_false_iff_ne]; omega
    have F : Hid (Xml.escR true r = Xml.utf8 r) := E.out.trans (by rw [if_neg a, if_neg b, if_neg c, if_neg d, if_neg e, if_neg f])
    clear E a b c d e f hr
    go_enter Tryz.func72, Tryz.ntmps72
    go_wp2
    go_ret
    exact ⟨by rw [F.out]; rfl, rfl⟩
theorem escR_len (v : Bool) (r : Nat) : (Xml.escR v r).length ≤ 6 := by
  have h := Xml.utf8_le r
  unfold Xml.escR
  repeat' split
  all_goals first | (simp; done) | omega
section
variable {w0 w w' : World} {b : Nat} {l T : Reply.B}
set_option maxRecDepth 100000 in
set_option maxHeartbeats 8000000 in
theorem lettersW_any (h : WrX w0 w b l) (f : FuncId) (v : Bool) (ST : StandsX f v) (s : Reply.B) (hs : Xml.letters s = true) :
    Calls Tryz.prog 51 #[.pointer (some ⟨b, 0, none⟩), .string (S s), .func (.func f) #[] #[]] w (PostW w0 w b l (Xml.esc v s)) := by
  have HST := Lib.hid ST
  have H := Lib.hid h
  have LS : Hid ((S s).size = s.length) := S_size s
  have HL := Lib.hid hs
  have SL : Hid (S s = ⟨s.toArray⟩) := rfl
  obtain ⟨sb, hsb⟩ : ∃ x, x = S s := ⟨_, rfl⟩
  have HSB := Lib.hid hsb
  rw [← hsb] at LS ⊢
  have I0 : Hid (∃ l1, WrX w0 (w.iter sb 0) b l1 ∧ KW b w (w.iter sb 0) ∧ (w.iter sb 0).heap[w.heap.size]? = some (.stringIter sb 0) ∧ Xml.letters (s.drop 0) = true ∧ l ++ Xml.esc v s = l1 ++ Xml.esc v (s.drop 0)) := by
    have k : Below w.heap.size w (w.iter sb 0) := (Below.refl _ _).alloc (Nat.le_refl _) _
    exact ⟨l, h.under k, KW.below k, World.iter_heap w sb 0, by rw [List.drop_zero]; exact hs, by rw [List.drop_zero]⟩
  clear h hs ST hsb SL
  go_enter Tryz.func51, Tryz.ntmps51
  go_wp2_with fail
  go_loopg [7] sb.size (fun g _ wx => ∃ i : Nat, i + g = sb.size ∧ Hid (∃ l1, WrX w0 wx b l1 ∧ KW b w wx ∧ wx.heap[w.heap.size]? = some (.stringIter sb i) ∧ Xml.letters (s.drop i) = true ∧ l ++ Xml.esc v s = l1 ++ Xml.esc v (s.drop i)))
  case atStart => exact ⟨0, by omega, I0⟩
  case round =>
    obtain ⟨i, hig, HH⟩ := hrel
    clear I0
    obtain ⟨l1, hw, hk, hit, hlt, heq⟩ := HH.out
    clear HH
    cases gk with
    | zero =>
      obtain rfl : i = sb.size := by omega
      have hnx := fun ty => Lib.run_next_end_at (P := Tryz.prog) wr w.heap.size sb sb.size ty hit (by omega)
      have F : Hid (PostW w0 w b l (Xml.esc v s) (.returned (.tuple #[])) wr) := by
        rw [LS.out, List.drop_length] at heq
        have e2 : Xml.esc v ([] : Reply.B) = [] := rfl
        rw [e2, List.append_nil] at heq
        refine ⟨hw.bel, hk, .inl ⟨?_, rfl, by rw [heq]; exact hw⟩⟩
        rw [← List.length_append, heq]
        exact hw.few
      clear hw hk hit hlt heq
      go_wp2
      go_end0
      exact F.out
    | succ g =>
      have hi : i < sb.size := by omega
      have hil : i < s.length := by rw [← LS.out]; exact hi
      have hne : s.drop i ≠ [] := fun h => by
        have := congrArg List.length h
        rw [List.length_drop] at this
        simp at this
        omega
      have hnx := fun ty => Lib.run_next_any_at (P := Tryz.prog) wr w.heap.size sb i ty hit hi
      have hd : Utf8.decode sb i = Xml.stepD (s.drop i) := by rw [HSB.out]; exact Xml.decode_step s i
      have ls := Xml.letters_step hne
      rw [hlt] at ls
      have hnb : ¬ ((Xml.stepD (s.drop i)).1 = 65533 ∧ (Xml.stepD (s.drop i)).2 = 1) := fun hc => by rw [if_pos hc] at ls; cases ls
      rw [if_neg hnb] at ls
      have es := Xml.esc_step (v := v) hne hnb
      have hpos := Xml.stepD_pos (l := s.drop i)
      have hlen := Xml.stepD_len hne
      rw [List.length_drop] at hlen
      rw [hd] at hnx
      rw [List.drop_drop] at ls es
      obtain ⟨r, n, hD⟩ : ∃ r n, Xml.stepD (s.drop i) = (r, n) := ⟨_, _, rfl⟩
      simp only [hD] at hnx ls es hpos hlen
      have hr : Xml.letter r = true := by
        cases hq : Xml.letter r with
        | true => rfl
        | false => rw [hq] at ls; cases ls
      have hl2 : Xml.letters (s.drop (i + n)) = true := by
        rw [hr] at ls
        exact ls.symm
      clear hD hd hnb hne
      obtain ⟨W2, hW2⟩ : ∃ W2, W2 = wr.iterAt w.heap.size sb (i + n) := ⟨_, rfl⟩
      have sz0 : w0.heap.size ≤ w.heap.size := H.out.bel.size
      have neb : w.heap.size ≠ b := fun e => by
        obtain ⟨_, cs, m, hbk⟩ := hw.wt.lo
        rw [← e, hit] at hbk
        cases hbk
      have I2 : W2.heap[w.heap.size]? = some (.stringIter sb (i + n)) := by rw [hW2]; exact Lib.iterAt_heap _ _ _ _ _ hit
      have K2 : ∀ g', g' ≠ w.heap.size → W2.heap[g']? = wr.heap[g']? := fun g' hg' => by rw [hW2]; exact Lib.iterAt_other _ _ _ _ _ hg'
      have Z2 : W2.heap.size = wr.heap.size := by rw [hW2]; exact Lib.iterAt_size _ _ _ _
      have B2 : Below w0.heap.size w0 W2 := by rw [hW2]; exact Lib.below_iterAt hw.bel sz0 sb _
      have WX2 : WrX w0 W2 b l1 := ⟨hw.env, B2, by rw [hW2]; exact Lib.IsBuilderF.iterAt hw.wt hit (i + n), hw.few⟩
      have KW2 : KW b w W2 := ⟨by rw [Z2]; exact hk.1, fun g' o hg' hb' ho => by
        have hgl := (Array.getElem?_eq_some_iff.1 hg').1
        rw [K2 g' (by omega)]
        exact hk.2 g' o hg' hb' ho⟩
      rw [← hW2] at hnx
      have SR := Lib.hid (HST.out.2 W2 r hr)
      have hcf := HST.out.1
      have AD := Lib.hid (add_any WX2 (Xml.escR v r) (by have := escR_len v r; omega) (S (Xml.escR v r)) rfl)
      have NE := Lib.hid neb
      have I2 := Lib.hid I2
      have KW2 := Lib.hid KW2
      have HEQ : Hid (l ++ Xml.esc v s = l1 ++ (Xml.escR v r ++ Xml.esc v (s.drop (i + n)))) := by show _ = _; rw [heq, es]
      have HL2 := Lib.hid hl2
      clear hW2 hw hk hit hlt heq es ls K2 Z2 B2 WX2 hr hl2 neb
      have hin : i + n ≤ sb.size := by rw [LS.out]; omega
      go_wp2_with fail
      refine SR.out.mono ?_
      rintro e w3 ⟨rfl, rfl⟩
      go_wp2_with fail
      refine AD.out.mono ?_
      rintro e w4 ⟨b4, k4, h4⟩
      rcases h4 with ⟨h5, rfl, h6⟩ | ⟨h5, rfl⟩
      · have N2 : Hid (∃ l1, WrX w0 w4 b l1 ∧ KW b w w4 ∧ w4.heap[w.heap.size]? = some (.stringIter sb (i + n)) ∧ Xml.letters (s.drop (i + n)) = true ∧ l ++ Xml.esc v s = l1 ++ Xml.esc v (s.drop (i + n))) :=
          ⟨_, h6, KW2.out.trans k4, k4.2 _ _ I2.out NE.out (fun _ _ e => by cases e), HL2.out, by rw [HEQ.out, List.append_assoc]⟩
        clear b4 k4 h5 h6 AD SR
        go_wp2_with fail
        go_roundg (sb.size - (i + n))
        case measure => omega
        case rel => exact ⟨i + n, by omega, N2⟩
      · refine ⟨rfl, b4, KW2.out.trans k4, .inr ⟨?_, rfl⟩⟩
        have := congrArg List.length HEQ.out
        simp only [List.length_append] at this
        omega
end
end Go.Proofs.YteefjmdallpihaaGreatDoor

namespace Go.Proofs.YteefjmdallpihaaGreatDoor
open Go.RowKit Reply Go.Shelf

theorem Wtr.ne {w : World} {B b q : Nat} {l : Reply.B} {t : TypeId} {cs : Array Value} {m : Nat × Nat} (h : Wtr w B b l) (hq : w.heap[q]? = some (.cells cs t m)) (ht : t ≠ 63) : q ≠ b := fun e => by
  obtain ⟨_, cs', m', hb⟩ := h.lo
  rw [e, hb] at hq
  injection hq with hq
  injection hq with _ hq _
  exact ht hq.symm
section
variable {w0 w w' u : World} {b B : Nat} {l T T1 P : Reply.B} {e : Ending}
theorem KW.row {base : Nat} {et : TypeId} {size n : Nat} {v : Value} {xs : List Value} (h : KW b w w') (hw : Wtr w B b l) (ho : w.ownsRow base et size v n xs) (h1 : et ≠ 63) (h2 : et ≠ 5) : w'.ownsRow base et size v n xs :=
  ⟨ho.1, ho.2.imp id fun ⟨g, cap, cur, a1, a2, a3, r⟩ => ⟨g, cap, cur, a1, a2, h.2 g _ a3 (hw.ne a3 h1) (fun cs' mk e => by
    injection e with _ e _
    exact h2 e), r⟩⟩
theorem KW.keepN {Q : Nat → Prop} (h : KW b w w') (hw : Wtr w B b l) : KeepN w w' Q Q := fun k cs t m hk hh ht => ⟨(h.2 k _ hh (hw.ne hh (by rcases ht with rfl | rfl <;> decide)) (fun cs' mk e => by
  injection e with _ e _
  rcases ht with ht | ht <;> rw [ht] at e <;> exact absurd e (by decide))).trans hh.symm, hk⟩
theorem PostW.then_ (k : KW b w u) (h : PostW w0 u b (l ++ T1) T e w') : PostW w0 w b l (T1 ++ T) e w' := by
  obtain ⟨h1, h2, h3⟩ := h
  refine ⟨h1, k.trans h2, ?_⟩
  rcases h3 with ⟨a, b, c⟩ | ⟨a, b⟩
  · exact .inl ⟨by simp only [List.length_append] at a ⊢; omega, b, by rw [← List.append_assoc]; exact c⟩
  · exact .inr ⟨by simp only [List.length_append] at a ⊢; omega, b⟩
/-- A part that is too long: so is the whole. -/
theorem PostW.long (k : KW b w u) (h : Below w0.heap.size w0 w') (h2 : KW b u w') (h3 : 65536 < (l ++ P).length + T1.length) (hT : ∃ r, T = P ++ T1 ++ r) : PostW w0 w b l T (.panicked [{ v := troubleX 5, recovered := false }]) w' := by
  obtain ⟨r, rfl⟩ := hT
  exact ⟨h, k.trans h2, .inr ⟨by simp only [List.length_append] at h3 ⊢; omega, rfl⟩⟩
set_option maxRecDepth 100000 in
set_option maxHeartbeats 4000000 in
theorem attribute_any (h : WrX w0 w b l) (n v : Reply.B) (hn : n.length ≤ 65536) (hv : Xml.letters v = true) (un : ByteArray) (hun : un = S n) :
    Calls Tryz.prog 50 #[.pointer (some ⟨b, 0, none⟩), .string un, .string (S v)] w (PostW w0 w b l (Xml.attr n v)) := by
  subst hun
  have EQ : Hid (Xml.attr n v = ([32] ++ n ++ [61, 34]) ++ Xml.esc true v ++ [34]) := by show _ = _; unfold Xml.attr; simp only [List.append_assoc]
  have A1 := Lib.hid (add_any h ([32] ++ n ++ [61, 34]) (by simp; omega) (⟨#[32]⟩ ++ S n ++ ⟨#[61, 34]⟩) (by rw [← S_append, ← S_append]; rfl))
  have b1 : ¬ 9223372036854775807 < 1 + (S n).size := by rw [S_size]; omega
  have b2 : ¬ 9223372036854775807 < 1 + (S n).size + 2 := by rw [S_size]; omega
  have HV := Lib.hid hv
  obtain ⟨T, hT⟩ : ∃ x, x = Xml.attr n v := ⟨_, rfl⟩
  rw [← hT] at EQ ⊢
  clear h hv hn hT
  go_enter Tryz.func50, Tryz.ntmps50
  go_wp2_with fail
  refine A1.out.mono ?_
  rintro e w1 ⟨c1, k1, d1⟩
  rcases d1 with ⟨h5, rfl, h6⟩ | ⟨h5, rfl⟩
  · have L1 := Lib.hid (lettersW_any h6 72 true invalue_any v HV.out)
    have K1 := Lib.hid k1
    clear c1 k1 h5 h6 A1 b1 b2
    go_wp2_with fail
    refine L1.out.mono ?_
    rintro e w2 ⟨c2, k2, d2⟩
    rcases d2 with ⟨h5, rfl, h6⟩ | ⟨h5, rfl⟩
    · have A2 := Lib.hid (add_any h6 [34] (by simp) ⟨#[34]⟩ rfl)
      have K2 := Lib.hid (K1.out.trans k2)
      clear c2 k2 h5 h6 L1
      go_wp2_with fail
      refine A2.out.mono ?_
      rintro e w3 h3
      have h3 : PostW w0 w b l T e w3 := by
        rw [EQ.out, List.append_assoc]
        exact PostW.then_ (KW.refl b w) (PostW.then_ K2.out h3)
      obtain ⟨p1, p2, p3⟩ := h3
      rcases p3 with ⟨q1, rfl, q2⟩ | ⟨q1, rfl⟩
      · have F : Hid (PostW w0 w b l T (.returned (.tuple #[])) w3) := ⟨p1, p2, .inl ⟨q1, rfl, q2⟩⟩
        clear p1 p2 q1 q2 A2
        go_wp2_with fail
        go_end0
        exact F.out
      · exact ⟨rfl, p1, p2, .inr ⟨q1, rfl⟩⟩
    · exact ⟨rfl, PostW.long (P := [32] ++ n ++ [61, 34]) (T1 := Xml.esc true v) K1.out c2 k2 h5 ⟨[34], EQ.out⟩⟩
  · exact ⟨rfl, PostW.long (P := []) (T1 := [32] ++ n ++ [61, 34]) (KW.refl b w) c1 k1 (by rw [List.append_nil]; exact h5) ⟨Xml.esc true v ++ [34], by rw [EQ.out, List.nil_append, List.append_assoc]⟩⟩
end
mutual
/-- What is asked of a tree that is written. -/
def WN : Xml.Nd → Prop
  | .mk _ sp nm al ks => nm.length ≤ 65536 ∧ Xml.letters sp = true ∧ (∀ a ∈ al, a.1.length ≤ 65536 ∧ Xml.letters a.2 = true) ∧ al.length ≤ 1048576 ∧ ks.length ≤ 1048576 ∧ WNs ks
def WNs : List Xml.Nd → Prop
  | [] => True
  | .mk t sp nm al ks :: r => ((nm = [] → Xml.letters t = true) ∧ (nm ≠ [] → WN (.mk t sp nm al ks))) ∧ WNs r
end
theorem WNs.at_ : ∀ {ks : List Xml.Nd} {k : Nat} {t sp nm : Reply.B} {al : List (Reply.B × Reply.B)} {k2 : List Xml.Nd}, WNs ks → ks[k]? = some (.mk t sp nm al k2) → (nm = [] → Xml.letters t = true) ∧ (nm ≠ [] → WN (.mk t sp nm al k2))
  | [], k, t, sp, nm, al, k2, _, h => by simp at h
  | .mk t' sp' nm' al' k2' :: ks, 0, t, sp, nm, al, k2, hs, h => by
    unfold WNs at hs
    have e : Xml.Nd.mk t' sp' nm' al' k2' = .mk t sp nm al k2 := by simpa using h
    injection e with e1 e2 e3 e4 e5
    subst e1 e2 e3 e4 e5
    exact hs.1
  | .mk t' sp' nm' al' k2' :: ks, k + 1, t, sp, nm, al, k2, hs, h => by
    unfold WNs at hs
    exact WNs.at_ hs.2 (by simpa using h)
/-- A writer's call on an element between two steps. -/
structure WrE (w0 w : World) (b b4 : Nat) (l : Reply.B) (t sp nm : Reply.B) (Aa Ak : Option Addr) (na ca nk ck : Nat) (al : List (Reply.B × Reply.B)) (ks : List Xml.Nd) (ll : List NC) (P : Reply.B) (wr : World) : Prop where
  wx : WrX w0 wr b (l ++ P)
  kw : KW b w wr
  bx : Held wr b4 28 #[.string (S t), .string (S sp), .string (S nm), .slice Aa na ca, .slice Ak nk ck]
  oa : OwnHA wr 0 (.slice Aa na ca) al
  ok : OwnHN wr 0 (.slice Ak nk ck) ll
  ns : NdsV wr (fun _ => True) ks ll
section
variable {w0 w wr w' : World} {b b4 : Nat} {l t sp nm : Reply.B} {Aa Ak : Option Addr} {na ca nk ck : Nat} {al : List (Reply.B × Reply.B)} {ks : List Xml.Nd} {ll : List NC} {P T1 : Reply.B}
theorem WrE.step (h : WrE w0 w b b4 l t sp nm Aa Ak na ca nk ck al ks ll P wr) (k : KW b wr w') (x : WrX w0 w' b (l ++ P ++ T1)) : WrE w0 w b b4 l t sp nm Aa Ak na ca nk ck al ks ll (P ++ T1) w' :=
  ⟨by rw [← List.append_assoc]; exact x, h.kw.trans k, k.held h.bx (h.wx.wt.ne h.bx (by decide)) (by decide), k.row h.wx.wt h.oa (by decide) (by decide), k.row h.wx.wt h.ok (by decide) (by decide), NdsV.keep (k.keepN h.wx.wt) ks ll h.ns⟩
theorem WrE.under (h : WrE w0 w b b4 l t sp nm Aa Ak na ca nk ck al ks ll P wr) (k : Below wr.heap.size wr w') : WrE w0 w b b4 l t sp nm Aa Ak na ca nk ck al ks ll P w' :=
  ⟨h.wx.under k, h.kw.trans (KW.below k), Held.below h.bx k h.bx.lt, h.oa.below k, h.ok.below k, NdsV.keep (KeepN.below k (fun _ h => h)) ks ll h.ns⟩
end
def ElW (nd : Xml.Nd) : Prop := ∀ (w0 w : World) (b : Nat) (l above : Reply.B) (ua : ByteArray) (m : NC), WrX w0 w b l → NdV w (fun _ => True) nd m → WN nd → ua = S above →
  Calls Tryz.prog 30 #[.pointer (some ⟨b, 0, none⟩), m.val, .string ua] w (PostW w0 w b l (Xml.form nd above))
theorem forms_take (ks : List Xml.Nd) (k : Nat) (hk : k < ks.length) (ab : Reply.B) {t sp nm : Reply.B} {al : List (Reply.B × Reply.B)} {k2 : List Xml.Nd} (hd : ks[k] = .mk t sp nm al k2) : Xml.forms (ks.take (k + 1)) ab = Xml.forms (ks.take k) ab ++ (if nm = [] then Xml.esc false t else Xml.form (.mk t sp nm al k2) ab) := by
  have app : ∀ (a c : List Xml.Nd), Xml.forms (a ++ c) ab = Xml.forms a ab ++ Xml.forms c ab := fun a c => by
    induction a with
    | nil => rw [Xml.forms]; rfl
    | cons x a ih =>
      obtain ⟨t', sp', nm', al', k2'⟩ := x
      rw [List.cons_append, Xml.forms, Xml.forms, ih, List.append_assoc]
  rw [List.take_succ_eq_append_getElem hk, app, hd, Xml.forms, Xml.forms, List.append_nil]
theorem forms_le (ks : List Xml.Nd) (k : Nat) (ab : Reply.B) : ∃ r, Xml.forms ks ab = Xml.forms (ks.take k) ab ++ r := by
  have app : ∀ (a c : List Xml.Nd), Xml.forms (a ++ c) ab = Xml.forms a ab ++ Xml.forms c ab := fun a c => by
    induction a with
    | nil => rw [Xml.forms]; rfl
    | cons x a ih =>
      obtain ⟨t', sp', nm', al', k2'⟩ := x
      rw [List.cons_append, Xml.forms, Xml.forms, ih, List.append_assoc]
  exact ⟨Xml.forms (ks.drop k) ab, by rw [← app, List.take_append_drop]⟩
set_option maxRecDepth 100000 in
set_option maxHeartbeats 32000000 in
theorem elW_step (nd : Xml.Nd) (IH : ∀ d, SizeOf.sizeOf d < SizeOf.sizeOf nd → ElW d) : ElW nd := by
  intro w0 w b l above ua m h hN hW hua
  subst hua
  obtain ⟨t, sp, nm, al, ks⟩ := nd
  obtain ⟨Aa, ca, Ak, ck, ll, rfl, OA, _, OK, _, NS⟩ := hN.parts
  show Calls Tryz.prog 30 #[.pointer (some ⟨b, 0, none⟩), .agg #[.string (S t), .string (S sp), .string (S nm), .slice Aa al.length ca, .slice Ak ll.length ck], .string (S above)] w _
  obtain ⟨X, hX⟩ : ∃ x, x = (if sp = above then [] else Xml.attr Xml.wXmlns sp : Reply.B) := ⟨_, rfl⟩
  obtain ⟨T, hT⟩ : ∃ x, x = Xml.form (.mk t sp nm al ks) above := ⟨_, rfl⟩
  have E : Hid (T = [60] ++ nm ++ X ++ al.flatMap (fun a => Xml.attr a.1 a.2) ++ (if ks = [] then [47, 62] else [62] ++ Xml.forms ks sp ++ [60, 47] ++ nm ++ [62])) := by show _ = _; rw [hT, hX, Xml.form]
  rw [← hT]
  have HX := Lib.hid hX
  have HI : Hid (∀ d ∈ ks, ElW d) := fun d hd => IH d (by
    have := List.sizeOf_lt_of_mem hd
    simp only [Xml.Nd.mk.sizeOf_spec]
    omega)
  unfold WN at hW
  obtain ⟨z1, z2, z3, z4, z5, z6⟩ := hW
  have Z2 := Lib.hid z2
  have Z3 := Lib.hid z3
  have Z6 := Lib.hid z6
  have LK : ll.length = ks.length := NdsV.length NS
  obtain ⟨na, hna⟩ : ∃ x, x = al.length := ⟨_, rfl⟩
  obtain ⟨nk, hnk⟩ : ∃ x, x = ll.length := ⟨_, rfl⟩
  have HNA := Lib.hid hna
  have HNK := Lib.hid hnk
  rw [← hna] at OA z4 ⊢
  rw [← hnk] at OK LK ⊢
  have nkb : nk ≤ 1048576 := by rw [LK]; exact z5
  have LH := Lib.hid LK
  have K0 : Below w.heap.size w (w.alloc (.cells #[.string (S t), .string (S sp), .string (S nm), .slice Aa na ca, .slice Ak nk ck] 28)) := (Below.refl _ _).alloc (Nat.le_refl _) _
  have T0 : Hid (WrE w0 w b w.heap.size l t sp nm Aa Ak na ca nk ck al ks ll [] (w.alloc (.cells #[.string (S t), .string (S sp), .string (S nm), .slice Aa na ca, .slice Ak nk ck] 28))) :=
    ⟨by rw [List.append_nil]; exact h.under K0, KW.below K0, Held.new w _ _ rfl, OA.below K0, OK.below K0, NdsV.keep (KeepN.below K0 (fun _ h => h)) ks ll NS⟩
  have es : ((S sp).toList == (S above).toList) = decide (sp = above) := S_eq sp above
  have AD := Lib.hid (add_any T0.out.wx ([60] ++ nm) (by simp; omega) (⟨#[60]⟩ ++ S nm) (by rw [← S_append]; rfl))
  have b1 : ¬ 9223372036854775807 < 1 + (S nm).size := by rw [S_size]; omega
  have b2 : ¬ 9223372036854775807 < 2 + (S nm).size := by rw [S_size]; omega
  have b3 : ¬ 9223372036854775807 < 2 + (S nm).size + 1 := by rw [S_size]; omega
  clear hT hX IH z2 z3 z5 z6 hna hnk LK K0 h OA OK NS hN
  go_enter Tryz.func30, Tryz.ntmps30
  go_wp2_with fail
  refine AD.out.mono ?_
  rintro e w1 ⟨c1, k1, d1⟩
  rcases d1 with ⟨h5, rfl, h6⟩ | ⟨h5, rfl⟩
  · have T1 := Lib.hid (T0.out.step k1 h6)
    have T1 : Hid (WrE w0 w b w.heap.size l t sp nm Aa Ak na ca nk ck al ks ll ([60] ++ nm) w1) := T1.out
    have d1 : w1.cell? ⟨w.heap.size, 1, none⟩ = some (.string (S sp)) := T1.out.bx.cell 1
    have d3 : w1.cell? ⟨w.heap.size, 3, none⟩ = some (.slice Aa na ca) := T1.out.bx.cell 3
    clear c1 k1 h5 h6 AD T0
    by_cases hsp : sp = above
    · rw [decide_eq_true hsp] at es
      have EX : Hid (X = []) := by show _ = _; rw [HX.out, if_pos hsp]
      have T2 : Hid (WrE w0 w b w.heap.size l t sp nm Aa Ak na ca nk ck al ks ll ([60] ++ nm ++ X) w1) := by rw [EX.out, List.append_nil]; exact T1.out
      clear hsp HX T1 EX
      go_wp2_with fail
      go_loopw [26] (fun v wr => ∃ k : Nat, k ≤ na ∧ v = .int .i64 k ∧ Hid (WrE w0 w b w.heap.size l t sp nm Aa Ak na ca nk ck al ks ll ([60] ++ nm ++ X ++ (al.take k).flatMap (fun a => Xml.attr a.1 a.2)) wr)) (fun v _ => na - (intOf v).toNat)
      case atStart => exact ⟨0, Nat.zero_le _, rfl, by show WrE _ _ _ _ _ _ _ _ _ _ _ _ _ _ _ _ _ _ _; rw [List.take_zero, List.flatMap_nil, List.append_nil]; exact T2.out⟩
      case round =>
        clear T2 d3
        obtain ⟨k, hk, rfl, T3⟩ := hrel
        by_cases hlt : k < na
        · have hkl : k < al.length := by rw [← HNA.out]; exact hlt
          have kz : (k : Int) < (na : Int) := by omega
          obtain ⟨g, off, hAa, x0, x1⟩ := T3.out.oa.hat.at_ hkl
          subst hAa
          have IN : Hid (al[k] ∈ al) := List.getElem_mem _
          have NX : Hid ((al.take (k + 1)).flatMap (fun a => Xml.attr a.1 a.2) = (al.take k).flatMap (fun a => Xml.attr a.1 a.2) ++ Xml.attr al[k].1 al[k].2) := by
            show _ = _
            rw [List.take_succ_eq_append_getElem hkl, List.flatMap_append, List.flatMap_cons, List.flatMap_nil, List.append_nil]
          have TL : Hid (∃ r, al.flatMap (fun a => Xml.attr a.1 a.2) = (al.take k).flatMap (fun a => Xml.attr a.1 a.2) ++ Xml.attr al[k].1 al[k].2 ++ r) := ⟨(al.drop (k + 1)).flatMap (fun a => Xml.attr a.1 a.2), by rw [← NX.out, ← List.flatMap_append, List.take_append_drop]⟩
          have nz := Z3.out _ IN.out
          obtain ⟨an, han⟩ : ∃ x, x = al[k].1 := ⟨_, rfl⟩
          obtain ⟨av, hav⟩ : ∃ x, x = al[k].2 := ⟨_, rfl⟩
          rw [← han] at x0 nz NX TL
          rw [← hav] at x1 nz NX TL
          have N1 := nz.1
          have N2 := Lib.hid nz.2
          clear han hav nz IN
          have AU : Below wr.heap.size wr (wr.alloc (.cells #[.string (S an), .string (S av)] 36)) := (Below.refl _ _).alloc (Nat.le_refl _) _
          have TU := Lib.hid (T3.out.under AU)
          have y0 : (wr.alloc (.cells #[.string (S an), .string (S av)] 36)).cell? ⟨wr.heap.size, 0, none⟩ = some (.string (S an)) := (Held.new wr 36 #[.string (S an), .string (S av)] rfl).cell 0
          have y1 : (wr.alloc (.cells #[.string (S an), .string (S av)] 36)).cell? ⟨wr.heap.size, 1, none⟩ = some (.string (S av)) := (Held.new wr 36 #[.string (S an), .string (S av)] rfl).cell 1
          have AT := Lib.hid (attribute_any TU.out.wx an av N1 N2.out (S an) rfl)
          clear AU T3 hkl
          go_wp2_with fail
          refine AT.out.mono ?_
          rintro e w4 ⟨c4, k4, d4⟩
          rcases d4 with ⟨h5, rfl, h6⟩ | ⟨h5, rfl⟩
          · have T4 : Hid (WrE w0 w b w.heap.size l t sp nm (some ⟨g, off, none⟩) Ak na ca nk ck al ks ll ([60] ++ nm ++ X ++ (al.take (k + 1)).flatMap (fun a => Xml.attr a.1 a.2)) w4) := by
              show WrE _ _ _ _ _ _ _ _ _ _ _ _ _ _ _ _ _ _ _
              rw [NX.out, ← List.append_assoc]
              exact TU.out.step k4 h6
            clear c4 k4 h5 h6 AT TU y0 y1 x0 x1
            go_wp2_with fail
            go_roundw
            case rel => exact ⟨k + 1, by omega, by go_num, T4⟩
            case measure => simp [intOf]; omega
          · obtain ⟨r, hr⟩ := TL.out
            exact ⟨rfl, PostW.long TU.out.kw c4 k4 h5 ⟨_, by rw [E.out, hr]; simp only [List.append_assoc]; rfl⟩⟩
        · obtain rfl : k = na := by omega
          have T3 : Hid (WrE w0 w b w.heap.size l t sp nm Aa Ak k ca nk ck al ks ll ([60] ++ nm ++ X ++ al.flatMap (fun a => Xml.attr a.1 a.2)) wr) := by
            have := T3.out
            rw [show al.take k = al by rw [HNA.out, List.take_length]] at this
            exact this
          have d4 : wr.cell? ⟨w.heap.size, 4, none⟩ = some (.slice Ak nk ck) := T3.out.bx.cell 4
          obtain ⟨P, hP⟩ : ∃ x, x = [60] ++ nm ++ X ++ al.flatMap (fun a => Xml.attr a.1 a.2) := ⟨_, rfl⟩
          rw [← hP] at T3 E
          clear hP
          by_cases hk0 : nk = 0
          · have kz0 : ((nk : Int) == 0) = true := by rw [beq_iff_eq]; omega
            have hks : ks = [] := List.length_eq_zero_iff.1 (by rw [← LH.out]; exact hk0)
            rw [if_pos hks] at E
            have AD := Lib.hid (add_any T3.out.wx [47, 62] (by simp) ⟨#[47, 62]⟩ rfl)
            clear hks hk0
            go_wp2_with fail
            refine AD.out.mono ?_
            rintro e w4 h4
            have h4 : PostW w0 w b l T e w4 := by
              rw [E.out]
              exact PostW.then_ T3.out.kw h4
            obtain ⟨p1, p2, p3⟩ := h4
            rcases p3 with ⟨q1, rfl, q2⟩ | ⟨q1, rfl⟩
            · have F : Hid (PostW w0 w b l T (.returned (.tuple #[])) w4) := ⟨p1, p2, .inl ⟨q1, rfl, q2⟩⟩
              clear p1 p2 q1 q2 AD d4
              go_wp2_with fail
              go_end0
              exact F.out
            · exact ⟨rfl, p1, p2, .inr ⟨q1, rfl⟩⟩
          · have kz0 : ((nk : Int) == 0) = false := by rw [beq_eq_false_iff_ne]; omega
            have hks : ks ≠ [] := fun h0 => hk0 (by rw [LH.out, h0]; rfl)
            rw [if_neg hks] at E
            have AD := Lib.hid (add_any T3.out.wx [62] (by simp) ⟨#[62]⟩ rfl)
            clear hks hk0
            go_wp2_with fail
            refine AD.out.mono ?_
            rintro e w4 ⟨c4, k4, p4⟩
            rcases p4 with ⟨h5, rfl, h6⟩ | ⟨h5, rfl⟩
            · have T4 := Lib.hid (T3.out.step k4 h6)
              have d4 : w4.cell? ⟨w.heap.size, 4, none⟩ = some (.slice Ak nk ck) := T4.out.bx.cell 4
              clear c4 k4 h5 h6 AD T3
              go_wp2_with fail
              go_loopw [48] (fun v wr => ∃ j : Nat, j ≤ nk ∧ v = .int .i64 j ∧ Hid (WrE w0 w b w.heap.size l t sp nm Aa Ak k ca nk ck al ks ll (P ++ [62] ++ Xml.forms (ks.take j) sp) wr)) (fun v _ => nk - (intOf v).toNat)
              case atStart => exact ⟨0, Nat.zero_le _, rfl, by show WrE _ _ _ _ _ _ _ _ _ _ _ _ _ _ _ _ _ _ _; rw [List.take_zero, Xml.forms, List.append_nil]; exact T4.out⟩
              case round =>
                clear T4 d4
                obtain ⟨j, hj, rfl, T5⟩ := hrel
                by_cases hlt2 : j < nk
                · have hkl : j < ll.length := by rw [← HNK.out]; exact hlt2
                  have hks : j < ks.length := by rw [← LH.out]; exact hlt2
                  have jz : (j : Int) < (nk : Int) := by omega
                  obtain ⟨m9, hm9, nv9⟩ := T5.out.ns.at_ (List.getElem?_eq_getElem hks)
                  have em9 : ll[j] = m9 := by
                    rw [List.getElem?_eq_getElem hkl] at hm9
                    exact Option.some.inj hm9
                  obtain ⟨g, off, hAk, x0, x1, x2, x3, x4⟩ := T5.out.ok.hat.at_ hkl
                  rw [em9] at x0 x1 x2 x3 x4
                  have IN : ks[j] ∈ ks := List.getElem_mem _
                  obtain ⟨⟨t9, sp9, nm9, al9, ks9⟩, hd9⟩ : ∃ x, x = ks[j] := ⟨_, rfl⟩
                  have W9 := Z6.out.at_ (k := j) (by rw [List.getElem?_eq_getElem hks, ← hd9])
                  have FT := forms_take ks j hks sp hd9.symm
                  have FL := forms_le ks (j + 1) sp
                  rw [FT] at FL
                  have EL := Lib.hid (HI.out _ IN)
                  rw [← hd9] at nv9 EL
                  have NV := Lib.hid nv9
                  obtain ⟨Aq, cq, Ar, cr, l9, rfl, _, _, _, _, _⟩ := nv9.parts
                  obtain ⟨kq, hkq⟩ : ∃ x, x = al9.length := ⟨_, rfl⟩
                  obtain ⟨kr, hkr⟩ : ∃ x, x = l9.length := ⟨_, rfl⟩
                  rw [← hkq, ← hkr] at NV
                  simp only at x0 x1 x2 x3 x4
                  rw [← hkq] at x3
                  rw [← hkr] at x4
                  subst hAk
                  have W9 := Lib.hid W9
                  have FT := Lib.hid FT
                  have FL := Lib.hid FL
                  clear hm9 em9 hd9 hks hkl hkq hkr nv9 IN
                  have AU : Below wr.heap.size wr (wr.alloc (.cells #[.string (S t9), .string (S sp9), .string (S nm9), .slice Aq kq cq, .slice Ar kr cr] 28)) := (Below.refl _ _).alloc (Nat.le_refl _) _
                  have TU := Lib.hid (T5.out.under AU)
                  have NU := Lib.hid (NdV.keep (KeepN.below AU (fun _ h => h)) _ _ NV.out)
                  have H9 := Held.new wr 28 #[.string (S t9), .string (S sp9), .string (S nm9), .slice Aq kq cq, .slice Ar kr cr] rfl
                  have y0 : (wr.alloc (.cells #[.string (S t9), .string (S sp9), .string (S nm9), .slice Aq kq cq, .slice Ar kr cr] 28)).cell? ⟨wr.heap.size, 0, none⟩ = some (.string (S t9)) := H9.cell 0
                  have y2 : (wr.alloc (.cells #[.string (S t9), .string (S sp9), .string (S nm9), .slice Aq kq cq, .slice Ar kr cr] 28)).cell? ⟨wr.heap.size, 2, none⟩ = some (.string (S nm9)) := H9.cell 2
                  have e1 : (wr.alloc (.cells #[.string (S t9), .string (S sp9), .string (S nm9), .slice Aq kq cq, .slice Ar kr cr] 28)).cell? ⟨w.heap.size, 1, none⟩ = some (.string (S sp)) := TU.out.bx.cell 1
                  have en : (S nm9).toList.isEmpty = decide (nm9 = []) := emptyX nm9
                  clear AU NV T5 H9
                  by_cases hnm : nm9 = []
                  · rw [decide_eq_true hnm] at en
                    rw [if_pos hnm] at FT FL
                    have LW := Lib.hid (lettersW_any TU.out.wx 52 false intext_any t9 (W9.out.1 hnm))
                    clear hnm
                    go_wp2_with fail
                    refine LW.out.mono ?_
                    rintro e w6 ⟨c6, k6, p6⟩
                    rcases p6 with ⟨h5, rfl, h6⟩ | ⟨h5, rfl⟩
                    · have T6 : Hid (WrE w0 w b w.heap.size l t sp nm Aa (some ⟨g, off, none⟩) k ca nk ck al ks ll (P ++ [62] ++ Xml.forms (ks.take (j + 1)) sp) w6) := by
                        show WrE _ _ _ _ _ _ _ _ _ _ _ _ _ _ _ _ _ _ _
                        rw [FT.out, ← List.append_assoc]
                        exact TU.out.step k6 h6
                      clear c6 k6 h5 h6 LW TU y0 y2 e1 NU
                      go_wp2_with fail
                      go_roundw
                      case rel => exact ⟨j + 1, by omega, by go_num, T6⟩
                      case measure => simp [intOf]; omega
                    · obtain ⟨r, hr⟩ := FL.out
                      exact ⟨rfl, PostW.long TU.out.kw c6 k6 h5 ⟨_, by rw [E.out, hr]; simp only [List.append_assoc]; rfl⟩⟩
                  · rw [decide_eq_false hnm] at en
                    rw [if_neg hnm] at FT FL
                    have EW := Lib.hid (EL.out w0 _ b _ sp (S sp) _ TU.out.wx NU.out (W9.out.2 hnm) rfl)
                    have EW : Hid (Calls Tryz.prog 30 #[.pointer (some ⟨b, 0, none⟩), .agg #[.string (S t9), .string (S sp9), .string (S nm9), .slice Aq kq cq, .slice Ar kr cr], .string (S sp)] (wr.alloc (.cells #[.string (S t9), .string (S sp9), .string (S nm9), .slice Aq kq cq, .slice Ar kr cr] 28)) (PostW w0 (wr.alloc (.cells #[.string (S t9), .string (S sp9), .string (S nm9), .slice Aq kq cq, .slice Ar kr cr] 28)) b (l ++ (P ++ [62] ++ Xml.forms (ks.take j) sp)) (Xml.form (.mk t9 sp9 nm9 al9 ks9) sp))) := EW.out
                    clear hnm
                    go_wp2_with fail
                    refine EW.out.mono ?_
                    rintro e w6 ⟨c6, k6, p6⟩
                    rcases p6 with ⟨h5, rfl, h6⟩ | ⟨h5, rfl⟩
                    · have T6 : Hid (WrE w0 w b w.heap.size l t sp nm Aa (some ⟨g, off, none⟩) k ca nk ck al ks ll (P ++ [62] ++ Xml.forms (ks.take (j + 1)) sp) w6) := by
                        show WrE _ _ _ _ _ _ _ _ _ _ _ _ _ _ _ _ _ _ _
                        rw [FT.out, ← List.append_assoc]
                        exact TU.out.step k6 h6
                      clear c6 k6 h5 h6 EW TU y0 y2 e1 NU
                      go_wp2_with fail
                      go_roundw
                      case rel => exact ⟨j + 1, by omega, by go_num, T6⟩
                      case measure => simp [intOf]; omega
                    · obtain ⟨r, hr⟩ := FL.out
                      exact ⟨rfl, PostW.long TU.out.kw c6 k6 h5 ⟨_, by rw [E.out, hr]; simp only [List.append_assoc]; rfl⟩⟩
                · obtain rfl : j = nk := by omega
                  have T5 : Hid (WrE w0 w b w.heap.size l t sp nm Aa Ak k ca j ck al ks ll (P ++ [62] ++ Xml.forms ks sp) wr) := by
                    have := T5.out
                    rw [show ks.take j = ks by rw [LH.out, List.take_length]] at this
                    exact this
                  have d2 : wr.cell? ⟨w.heap.size, 2, none⟩ = some (.string (S nm)) := T5.out.bx.cell 2
                  have AD := Lib.hid (add_any T5.out.wx ([60, 47] ++ nm ++ [62]) (by simp; omega) (⟨#[60, 47]⟩ ++ S nm ++ ⟨#[62]⟩) (by rw [← S_append, ← S_append]; rfl))
                  go_wp2_with fail
                  refine AD.out.mono ?_
                  rintro e w6 h6
                  have h6 : PostW w0 w b l T e w6 := by
                    rw [E.out]
                    have := PostW.then_ T5.out.kw h6
                    simp only [List.append_assoc] at this ⊢
                    exact this
                  obtain ⟨p1, p2, p3⟩ := h6
                  rcases p3 with ⟨q1, rfl, q2⟩ | ⟨q1, rfl⟩
                  · have F : Hid (PostW w0 w b l T (.returned (.tuple #[])) w6) := ⟨p1, p2, .inl ⟨q1, rfl, q2⟩⟩
                    clear p1 p2 q1 q2 AD d2 T5
                    go_wp2_with fail
                    go_end0
                    exact F.out
                  · exact ⟨rfl, p1, p2, .inr ⟨q1, rfl⟩⟩
            · exact ⟨rfl, PostW.long T3.out.kw c4 k4 h5 ⟨_, by rw [E.out]; simp only [List.append_assoc]; rfl⟩⟩
    · rw [decide_eq_false hsp] at es
      have EX : Hid (X = Xml.attr Xml.wXmlns sp) := by show _ = _; rw [HX.out, if_neg hsp]
      have AT := Lib.hid (attribute_any T1.out.wx Xml.wXmlns sp (by decide) Z2.out ⟨#[120, 109, 108, 110, 115]⟩ rfl)
      clear hsp HX d3
      go_wp2_with fail
      refine AT.out.mono ?_
      rintro e w2 ⟨c2, k2, d2⟩
      rcases d2 with ⟨h5, rfl, h6⟩ | ⟨h5, rfl⟩
      · have T2 : Hid (WrE w0 w b w.heap.size l t sp nm Aa Ak na ca nk ck al ks ll ([60] ++ nm ++ X) w2) := by rw [EX.out]; exact T1.out.step k2 h6
        have d3 : w2.cell? ⟨w.heap.size, 3, none⟩ = some (.slice Aa na ca) := T2.out.bx.cell 3
        clear c2 k2 h5 h6 AT T1 EX d1
        go_wp2_with fail
        go_loopw [26] (fun v wr => ∃ k : Nat, k ≤ na ∧ v = .int .i64 k ∧ Hid (WrE w0 w b w.heap.size l t sp nm Aa Ak na ca nk ck al ks ll ([60] ++ nm ++ X ++ (al.take k).flatMap (fun a => Xml.attr a.1 a.2)) wr)) (fun v _ => na - (intOf v).toNat)
        case atStart => exact ⟨0, Nat.zero_le _, rfl, by show WrE _ _ _ _ _ _ _ _ _ _ _ _ _ _ _ _ _ _ _; rw [List.take_zero, List.flatMap_nil, List.append_nil]; exact T2.out⟩
        case round =>
          clear T2 d3
          obtain ⟨k, hk, rfl, T3⟩ := hrel
          by_cases hlt : k < na
          · have hkl : k < al.length := by rw [← HNA.out]; exact hlt
            have kz : (k : Int) < (na : Int) := by omega
            obtain ⟨g, off, hAa, x0, x1⟩ := T3.out.oa.hat.at_ hkl
            subst hAa
            have IN : Hid (al[k] ∈ al) := List.getElem_mem _
            have NX : Hid ((al.take (k + 1)).flatMap (fun a => Xml.attr a.1 a.2) = (al.take k).flatMap (fun a => Xml.attr a.1 a.2) ++ Xml.attr al[k].1 al[k].2) := by
              show _ = _
              rw [List.take_succ_eq_append_getElem hkl, List.flatMap_append, List.flatMap_cons, List.flatMap_nil, List.append_nil]
            have TL : Hid (∃ r, al.flatMap (fun a => Xml.attr a.1 a.2) = (al.take k).flatMap (fun a => Xml.attr a.1 a.2) ++ Xml.attr al[k].1 al[k].2 ++ r) := ⟨(al.drop (k + 1)).flatMap (fun a => Xml.attr a.1 a.2), by rw [← NX.out, ← List.flatMap_append, List.take_append_drop]⟩
            have nz := Z3.out _ IN.out
            obtain ⟨an, han⟩ : ∃ x, x = al[k].1 := ⟨_, rfl⟩
            obtain ⟨av, hav⟩ : ∃ x, x = al[k].2 := ⟨_, rfl⟩
            rw [← han] at x0 nz NX TL
            rw [← hav] at x1 nz NX TL
            have N1 := nz.1
            have N2 := Lib.hid nz.2
            clear han hav nz IN
            have AU : Below wr.heap.size wr (wr.alloc (.cells #[.string (S an), .string (S av)] 36)) := (Below.refl _ _).alloc (Nat.le_refl _) _
            have TU := Lib.hid (T3.out.under AU)
            have y0 : (wr.alloc (.cells #[.string (S an), .string (S av)] 36)).cell? ⟨wr.heap.size, 0, none⟩ = some (.string (S an)) := (Held.new wr 36 #[.string (S an), .string (S av)] rfl).cell 0
            have y1 : (wr.alloc (.cells #[.string (S an), .string (S av)] 36)).cell? ⟨wr.heap.size, 1, none⟩ = some (.string (S av)) := (Held.new wr 36 #[.string (S an), .string (S av)] rfl).cell 1
            have AT := Lib.hid (attribute_any TU.out.wx an av N1 N2.out (S an) rfl)
            clear AU T3 hkl
            go_wp2_with fail
            refine AT.out.mono ?_
            rintro e w4 ⟨c4, k4, d4⟩
            rcases d4 with ⟨h5, rfl, h6⟩ | ⟨h5, rfl⟩
            · have T4 : Hid (WrE w0 w b w.heap.size l t sp nm (some ⟨g, off, none⟩) Ak na ca nk ck al ks ll ([60] ++ nm ++ X ++ (al.take (k + 1)).flatMap (fun a => Xml.attr a.1 a.2)) w4) := by
                show WrE _ _ _ _ _ _ _ _ _ _ _ _ _ _ _ _ _ _ _
                rw [NX.out, ← List.append_assoc]
                exact TU.out.step k4 h6
              clear c4 k4 h5 h6 AT TU y0 y1 x0 x1
              go_wp2_with fail
              go_roundw
              case rel => exact ⟨k + 1, by omega, by go_num, T4⟩
              case measure => simp [intOf]; omega
            · obtain ⟨r, hr⟩ := TL.out
              exact ⟨rfl, PostW.long TU.out.kw c4 k4 h5 ⟨_, by rw [E.out, hr]; simp only [List.append_assoc]; rfl⟩⟩
          · obtain rfl : k = na := by omega
            have T3 : Hid (WrE w0 w b w.heap.size l t sp nm Aa Ak k ca nk ck al ks ll ([60] ++ nm ++ X ++ al.flatMap (fun a => Xml.attr a.1 a.2)) wr) := by
              have := T3.out
              rw [show al.take k = al by rw [HNA.out, List.take_length]] at this
              exact this
            have d4 : wr.cell? ⟨w.heap.size, 4, none⟩ = some (.slice Ak nk ck) := T3.out.bx.cell 4
            obtain ⟨P, hP⟩ : ∃ x, x = [60] ++ nm ++ X ++ al.flatMap (fun a => Xml.attr a.1 a.2) := ⟨_, rfl⟩
            rw [← hP] at T3 E
            clear hP
            by_cases hk0 : nk = 0
            · have kz0 : ((nk : Int) == 0) = true := by rw [beq_iff_eq]; omega
              have hks : ks = [] := List.length_eq_zero_iff.1 (by rw [← LH.out]; exact hk0)
              rw [if_pos hks] at E
              have AD := Lib.hid (add_any T3.out.wx [47, 62] (by simp) ⟨#[47, 62]⟩ rfl)
              clear hks hk0
              go_wp2_with fail
              refine AD.out.mono ?_
              rintro e w4 h4
              have h4 : PostW w0 w b l T e w4 := by
                rw [E.out]
                exact PostW.then_ T3.out.kw h4
              obtain ⟨p1, p2, p3⟩ := h4
              rcases p3 with ⟨q1, rfl, q2⟩ | ⟨q1, rfl⟩
              · have F : Hid (PostW w0 w b l T (.returned (.tuple #[])) w4) := ⟨p1, p2, .inl ⟨q1, rfl, q2⟩⟩
                clear p1 p2 q1 q2 AD d4
                go_wp2_with fail
                go_end0
                exact F.out
              · exact ⟨rfl, p1, p2, .inr ⟨q1, rfl⟩⟩
            · have kz0 : ((nk : Int) == 0) = false := by rw [beq_eq_false_iff_ne]; omega
              have hks : ks ≠ [] := fun h0 => hk0 (by rw [LH.out, h0]; rfl)
              rw [if_neg hks] at E
              have AD := Lib.hid (add_any T3.out.wx [62] (by simp) ⟨#[62]⟩ rfl)
              clear hks hk0
              go_wp2_with fail
              refine AD.out.mono ?_
              rintro e w4 ⟨c4, k4, p4⟩
              rcases p4 with ⟨h5, rfl, h6⟩ | ⟨h5, rfl⟩
              · have T4 := Lib.hid (T3.out.step k4 h6)
                have d4 : w4.cell? ⟨w.heap.size, 4, none⟩ = some (.slice Ak nk ck) := T4.out.bx.cell 4
                clear c4 k4 h5 h6 AD T3
                go_wp2_with fail
                go_loopw [48] (fun v wr => ∃ j : Nat, j ≤ nk ∧ v = .int .i64 j ∧ Hid (WrE w0 w b w.heap.size l t sp nm Aa Ak k ca nk ck al ks ll (P ++ [62] ++ Xml.forms (ks.take j) sp) wr)) (fun v _ => nk - (intOf v).toNat)
                case atStart => exact ⟨0, Nat.zero_le _, rfl, by show WrE _ _ _ _ _ _ _ _ _ _ _ _ _ _ _ _ _ _ _; rw [List.take_zero, Xml.forms, List.append_nil]; exact T4.out⟩
                case round =>
                  clear T4 d4
                  obtain ⟨j, hj, rfl, T5⟩ := hrel
                  by_cases hlt2 : j < nk
                  · have hkl : j < ll.length := by rw [← HNK.out]; exact hlt2
                    have hks : j < ks.length := by rw [← LH.out]; exact hlt2
                    have jz : (j : Int) < (nk : Int) := by omega
                    obtain ⟨m9, hm9, nv9⟩ := T5.out.ns.at_ (List.getElem?_eq_getElem hks)
                    have em9 : ll[j] = m9 := by
                      rw [List.getElem?_eq_getElem hkl] at hm9
                      exact Option.some.inj hm9
                    obtain ⟨g, off, hAk, x0, x1, x2, x3, x4⟩ := T5.out.ok.hat.at_ hkl
                    rw [em9] at x0 x1 x2 x3 x4
                    have IN : ks[j] ∈ ks := List.getElem_mem _
                    obtain ⟨⟨t9, sp9, nm9, al9, ks9⟩, hd9⟩ : ∃ x, x = ks[j] := ⟨_, rfl⟩
                    have W9 := Z6.out.at_ (k := j) (by rw [List.getElem?_eq_getElem hks, ← hd9])
                    have FT := forms_take ks j hks sp hd9.symm
                    have FL := forms_le ks (j + 1) sp
                    rw [FT] at FL
                    have EL := Lib.hid (HI.out _ IN)
                    rw [← hd9] at nv9 EL
                    have NV := Lib.hid nv9
                    obtain ⟨Aq, cq, Ar, cr, l9, rfl, _, _, _, _, _⟩ := nv9.parts
                    obtain ⟨kq, hkq⟩ : ∃ x, x = al9.length := ⟨_, rfl⟩
                    obtain ⟨kr, hkr⟩ : ∃ x, x = l9.length := ⟨_, rfl⟩
                    rw [← hkq, ← hkr] at NV
                    simp only at x0 x1 x2 x3 x4
                    rw [← hkq] at x3
                    rw [← hkr] at x4
                    subst hAk
                    have W9 := Lib.hid W9
                    have FT := Lib.hid FT
                    have FL := Lib.hid FL
                    clear hm9 em9 hd9 hks hkl hkq hkr nv9 IN
                    have AU : Below wr.heap.size wr (wr.alloc (.cells #[.string (S t9), .string (S sp9), .string (S nm9), .slice Aq kq cq, .slice Ar kr cr] 28)) := (Below.refl _ _).alloc (Nat.le_refl _) _
                    have TU := Lib.hid (T5.out.under AU)
                    have NU := Lib.hid (NdV.keep (KeepN.below AU (fun _ h => h)) _ _ NV.out)
                    have H9 := Held.new wr 28 #[.string (S t9), .string (S sp9), .string (S nm9), .slice Aq kq cq, .slice Ar kr cr] rfl
                    have y0 : (wr.alloc (.cells #[.string (S t9), .string (S sp9), .string (S nm9), .slice Aq kq cq, .slice Ar kr cr] 28)).cell? ⟨wr.heap.size, 0, none⟩ = some (.string (S t9)) := H9.cell 0
                    have y2 : (wr.alloc (.cells #[.string (S t9), .string (S sp9), .string (S nm9), .slice Aq kq cq, .slice Ar kr cr] 28)).cell? ⟨wr.heap.size, 2, none⟩ = some (.string (S nm9)) := H9.cell 2
                    have e1 : (wr.alloc (.cells #[.string (S t9), .string (S sp9), .string (S nm9), .slice Aq kq cq, .slice Ar kr cr] 28)).cell? ⟨w.heap.size, 1, none⟩ = some (.string (S sp)) := TU.out.bx.cell 1
                    have en : (S nm9).toList.isEmpty = decide (nm9 = []) := emptyX nm9
                    clear AU NV T5 H9
                    by_cases hnm : nm9 = []
                    · rw [decide_eq_true hnm] at en
                      rw [if_pos hnm] at FT FL
                      have LW := Lib.hid (lettersW_any TU.out.wx 52 false intext_any t9 (W9.out.1 hnm))
                      clear hnm
                      go_wp2_with fail
                      refine LW.out.mono ?_
                      rintro e w6 ⟨c6, k6, p6⟩
                      rcases p6 with ⟨h5, rfl, h6⟩ | ⟨h5, rfl⟩
                      · have T6 : Hid (WrE w0 w b w.heap.size l t sp nm Aa (some ⟨g, off, none⟩) k ca nk ck al ks ll (P ++ [62] ++ Xml.forms (ks.take (j + 1)) sp) w6) := by
                          show WrE _ _ _ _ _ _ _ _ _ _ _ _ _ _ _ _ _ _ _
                          rw [FT.out, ← List.append_assoc]
                          exact TU.out.step k6 h6
                        clear c6 k6 h5 h6 LW TU y0 y2 e1 NU
                        go_wp2_with fail
                        go_roundw
                        case rel => exact ⟨j + 1, by omega, by go_num, T6⟩
                        case measure => simp [intOf]; omega
                      · obtain ⟨r, hr⟩ := FL.out
                        exact ⟨rfl, PostW.long TU.out.kw c6 k6 h5 ⟨_, by rw [E.out, hr]; simp only [List.append_assoc]; rfl⟩⟩
                    · rw [decide_eq_false hnm] at en
                      rw [if_neg hnm] at FT FL
                      have EW := Lib.hid (EL.out w0 _ b _ sp (S sp) _ TU.out.wx NU.out (W9.out.2 hnm) rfl)
                      have EW : Hid (Calls Tryz.prog 30 #[.pointer (some ⟨b, 0, none⟩), .agg #[.string (S t9), .string (S sp9), .string (S nm9), .slice Aq kq cq, .slice Ar kr cr], .string (S sp)] (wr.alloc (.cells #[.string (S t9), .string (S sp9), .string (S nm9), .slice Aq kq cq, .slice Ar kr cr] 28)) (PostW w0 (wr.alloc (.cells #[.string (S t9), .string (S sp9), .string (S nm9), .slice Aq kq cq, .slice Ar kr cr] 28)) b (l ++ (P ++ [62] ++ Xml.forms (ks.take j) sp)) (Xml.form (.mk t9 sp9 nm9 al9 ks9) sp))) := EW.out
                      clear hnm
                      go_wp2_with fail
                      refine EW.out.mono ?_
                      rintro e w6 ⟨c6, k6, p6⟩
                      rcases p6 with ⟨h5, rfl, h6⟩ | ⟨h5, rfl⟩
                      · have T6 : Hid (WrE w0 w b w.heap.size l t sp nm Aa (some ⟨g, off, none⟩) k ca nk ck al ks ll (P ++ [62] ++ Xml.forms (ks.take (j + 1)) sp) w6) := by
                          show WrE _ _ _ _ _ _ _ _ _ _ _ _ _ _ _ _ _ _ _
                          rw [FT.out, ← List.append_assoc]
                          exact TU.out.step k6 h6
                        clear c6 k6 h5 h6 EW TU y0 y2 e1 NU
                        go_wp2_with fail
                        go_roundw
                        case rel => exact ⟨j + 1, by omega, by go_num, T6⟩
                        case measure => simp [intOf]; omega
                      · obtain ⟨r, hr⟩ := FL.out
                        exact ⟨rfl, PostW.long TU.out.kw c6 k6 h5 ⟨_, by rw [E.out, hr]; simp only [List.append_assoc]; rfl⟩⟩
                  · obtain rfl : j = nk := by omega
                    have T5 : Hid (WrE w0 w b w.heap.size l t sp nm Aa Ak k ca j ck al ks ll (P ++ [62] ++ Xml.forms ks sp) wr) := by
                      have := T5.out
                      rw [show ks.take j = ks by rw [LH.out, List.take_length]] at this
                      exact this
                    have d2 : wr.cell? ⟨w.heap.size, 2, none⟩ = some (.string (S nm)) := T5.out.bx.cell 2
                    have AD := Lib.hid (add_any T5.out.wx ([60, 47] ++ nm ++ [62]) (by simp; omega) (⟨#[60, 47]⟩ ++ S nm ++ ⟨#[62]⟩) (by rw [← S_append, ← S_append]; rfl))
                    go_wp2_with fail
                    refine AD.out.mono ?_
                    rintro e w6 h6
                    have h6 : PostW w0 w b l T e w6 := by
                      rw [E.out]
                      have := PostW.then_ T5.out.kw h6
                      simp only [List.append_assoc] at this ⊢
                      exact this
                    obtain ⟨p1, p2, p3⟩ := h6
                    rcases p3 with ⟨q1, rfl, q2⟩ | ⟨q1, rfl⟩
                    · have F : Hid (PostW w0 w b l T (.returned (.tuple #[])) w6) := ⟨p1, p2, .inl ⟨q1, rfl, q2⟩⟩
                      clear p1 p2 q1 q2 AD d2 T5
                      go_wp2_with fail
                      go_end0
                      exact F.out
                    · exact ⟨rfl, p1, p2, .inr ⟨q1, rfl⟩⟩
              · exact ⟨rfl, PostW.long T3.out.kw c4 k4 h5 ⟨_, by rw [E.out]; simp only [List.append_assoc]; rfl⟩⟩
      · exact ⟨rfl, PostW.long T1.out.kw c2 k2 h5 ⟨_, by rw [E.out, EX.out]; simp only [List.append_assoc]; rfl⟩⟩
  · exact ⟨rfl, PostW.long (P := []) (KW.below ((Below.refl _ _).alloc (Nat.le_refl _) _)) c1 k1 h5 ⟨_, by rw [E.out, List.nil_append]; simp only [List.append_assoc]; rfl⟩⟩
theorem elW_all : ∀ nd : Xml.Nd, ElW nd := fun nd => by
  have key : ∀ (n : Nat) (d : Xml.Nd), SizeOf.sizeOf d ≤ n → ElW d := fun n => by
    induction n using Nat.strongRecOn with
    | ind n ih => exact fun d hd => elW_step d (fun d' hd' => ih (SizeOf.sizeOf d') (by omega) d' (Nat.le_refl _))
  exact key _ nd (Nat.le_refl _)
end Go.Proofs.YteefjmdallpihaaGreatDoor

namespace Go.Proofs.YteefjmdallpihaaGreatDoor
namespace Xml
/-- What Write answers: an error's number, and the form. -/
def wrote (n : Nd) : Nat × B := if good n = false then (30, []) else if 65536 < (form n []).length then (5, []) else (0, form n [])
theorem goodName_len {l : B} (h : goodName l = true) : l.length ≤ 60 := by
  unfold goodName short at h
  simp only [Bool.and_eq_true, decide_eq_true_eq] at h
  exact h.1.1
theorem short_letters {l : B} (h : short l = true) : letters l = true := by
  unfold short at h
  simp only [Bool.and_eq_true, decide_eq_true_eq] at h
  exact h.2
theorem goodAttrs_mem {al : List (B × B)} (h : goodAttrs al = true) : ∀ a ∈ al, a.1.length ≤ 65536 ∧ letters a.2 = true := fun a ha => by
  unfold goodAttrs at h
  simp only [Bool.and_eq_true, List.all_eq_true] at h
  have := h.1 a ha
  have h2 := goodName_len this.1.1
  exact ⟨by omega, this.2⟩
mutual
theorem census_WN : ∀ (d : Nat) (nd : Nd) {n x : Nat}, census n d nd = some x → SmN nd → WN nd
  | d, .mk t sp nm al ks, n, x, h, hs => by
    rw [census] at h
    split at h
    · cases h
    · rename_i hc
      unfold SmN at hs
      have g1 : goodName nm = true := by
        cases hq : goodName nm with
        | true => rfl
        | false => exact absurd (.inr (.inr (.inr (.inl hq)))) hc
      have g2 : short sp = true := by
        cases hq : short sp with
        | true => rfl
        | false => exact absurd (.inr (.inr (.inr (.inr (.inl hq))))) hc
      have g3 : goodAttrs al = true := by
        cases hq : goodAttrs al with
        | true => rfl
        | false => exact absurd (.inr (.inr (.inr (.inr (.inr hq))))) hc
      have l1 := goodName_len g1
      unfold WN
      exact ⟨by omega, short_letters g2, goodAttrs_mem g3, hs.2.2.2.1, hs.2.2.2.2.2.1, censusAll_WN d ks h hs.2.2.2.2.2.2⟩
theorem censusAll_WN : ∀ (d : Nat) (ks : List Nd) {n : Nat} {b : Bool} {x : Nat}, censusAll n d b ks = some x → SmNs ks → WNs ks
  | d, [], n, b, x, _, _ => by unfold WNs; trivial
  | d, .mk t sp nm al ks :: r, n, b, x, h, hs => by
    rw [censusAll] at h
    unfold SmNs at hs
    unfold WNs
    split at h
    · rename_i hnm
      split at h
      · cases h
      · rename_i hc
        refine ⟨⟨fun _ => ?_, fun hn => absurd hnm hn⟩, censusAll_WN d r h hs.2⟩
        cases hq : letters t with
        | true => rfl
        | false => exact absurd (.inr (.inr (.inr (.inl hq)))) hc
    · rename_i hnm
      cases hc : census n (d + 1) (.mk t sp nm al ks) with
      | none => rw [hc] at h; cases h
      | some m =>
        rw [hc] at h
        exact ⟨⟨fun hn => absurd hn hnm, fun _ => census_WN (d + 1) (.mk t sp nm al ks) hc hs.1⟩, censusAll_WN d r h hs.2⟩
end
theorem form_ne (n : Nd) (a : B) : form n a ≠ [] := by
  obtain ⟨t, sp, nm, al, ks⟩ := n
  rw [form]
  simp
end Xml
open Go.RowKit Reply Go.Shelf

/-- What write ends with. -/
def EndsF (nd : Xml.Nd) (e : Ending) : Prop := ((Xml.wrote nd).1 = 0 ∧ e = .returned (.string (S (Xml.wrote nd).2))) ∨ ((Xml.wrote nd).1 ≠ 0 ∧ (Xml.wrote nd).2 = [] ∧ e = .panicked [{ v := troubleX (Xml.wrote nd).1, recovered := false }])
set_option maxRecDepth 100000 in
set_option maxHeartbeats 8000000 in
theorem writeX_any (w : World) (E : EnvX w) (nd : Xml.Nd) (m : NC) (hS : SmN nd) (hN : NdV w (fun _ => True) nd m) :
    Calls Tryz.prog 17 #[m.val] w fun e w' => Below w.heap.size w w' ∧ EndsF nd e := by
  obtain ⟨R, hR⟩ : ∃ x, x = Xml.wrote nd := ⟨_, rfl⟩
  have EF : Hid (∀ e, ((R.1 = 0 ∧ e = .returned (.string (S R.2))) ∨ (R.1 ≠ 0 ∧ R.2 = [] ∧ e = .panicked [{ v := troubleX R.1, recovered := false }])) → EndsF nd e) := fun e h => by
    unfold EndsF
    rw [← hR]
    exact h
  have RR : Hid (R = if Xml.good nd = false then (30, []) else if 65536 < (Xml.form nd []).length then (5, []) else (0, Xml.form nd [])) := hR
  have WNH : Hid (Xml.good nd = true → WN nd) := fun h => by
    unfold Xml.good at h
    obtain ⟨x, hx⟩ := Option.isSome_iff_exists.1 h
    exact Xml.census_WN 1 nd hx hS
  clear hR
  obtain ⟨t, sp, nm, al, ks⟩ := nd
  obtain ⟨Aa, ca, Ak, ck, l, rfl, _, _, _, _, _⟩ := hN.parts
  show Calls Tryz.prog 17 #[.agg #[.string (S t), .string (S sp), .string (S nm), .slice Aa al.length ca, .slice Ak l.length ck]] w _
  obtain ⟨nd, hnd⟩ : ∃ x, x = Xml.Nd.mk t sp nm al ks := ⟨_, rfl⟩
  rw [← hnd] at hN hS EF RR WNH ⊢
  generalize al.length = na at *
  generalize l.length = nk at *
  obtain ⟨w1, hw1⟩ : ∃ x, x = w.alloc (.cells #[.string (S t), .string (S sp), .string (S nm), .slice Aa na ca, .slice Ak nk ck] 28) := ⟨_, rfl⟩
  have K1 : Below w.heap.size w w1 := by rw [hw1]; exact (Below.refl _ _).alloc (Nat.le_refl _) _
  have H1 : Held w1 w.heap.size 28 #[.string (S t), .string (S sp), .string (S nm), .slice Aa na ca, .slice Ak nk ck] := by rw [hw1]; exact Held.new w _ _ rfl
  have N1 := NdV.keep (KeepN.below K1 (fun _ h => h)) _ _ hN
  have HE := Lib.hid E
  have GD := goodX_any w1 (E.below K1) nd _ hS N1
  have GD : Hid (Calls Tryz.prog 29 #[.agg #[.string (S t), .string (S sp), .string (S nm), .slice Aa na ca, .slice Ak nk ck]] (w.alloc (.cells #[.string (S t), .string (S sp), .string (S nm), .slice Aa na ca, .slice Ak nk ck] 28)) fun e w' => e = .returned (.bool (Xml.good nd)) ∧ Below w1.heap.size w1 w') := by
    rw [← hw1]
    exact GD
  have K1 := Lib.hid K1
  have H1 := Lib.hid H1
  have N1 := Lib.hid N1
  clear hN hS E hnd hw1
  go_enter Tryz.func17, Tryz.ntmps17
  go_wp2_with fail
  refine GD.out.mono ?_
  rintro e w2 ⟨rfl, b2⟩
  have K2 := Lib.hid (K1.out.trans (b2.mono K1.out.size))
  have H2 := Lib.hid (Held.below H1.out b2 H1.out.lt)
  have N2 := Lib.hid (NdV.keep (KeepN.below b2 (fun _ h => h)) _ _ N1.out)
  clear b2 GD K1 H1 N1
  cases hg : Xml.good nd with
  | false =>
    have R2 : R = (30, []) := by rw [RR.out, if_pos hg]
    have F : Hid (EndsF nd (.panicked [{ v := troubleX 30, recovered := false }])) := EF.out _ (by rw [R2]; exact .inr ⟨by decide, rfl, rfl⟩)
    clear hg R2
    go_wp2_with fail
    refine (demand_bad _ _).mono ?_
    rintro e wx ⟨rfl, rfl⟩
    exact ⟨rfl, K2.out, F.out⟩
  | true =>
    have RR : Hid (R = if 65536 < (Xml.form nd []).length then (5, []) else (0, Xml.form nd [])) := RR.out.trans (if_neg (by rw [hg]; simp))
    have WNN := Lib.hid (WNH.out hg)
    have H3 := H2.out.alloc (.cells #[.pointer none, .slice none 0 0] 63)
    have d0 : (w2.alloc (.cells #[.pointer none, .slice none 0 0] 63)).cell? ⟨w.heap.size, 0, none⟩ = some (.string (S t)) := H3.cell 0
    have d1 : (w2.alloc (.cells #[.pointer none, .slice none 0 0] 63)).cell? ⟨w.heap.size, 1, none⟩ = some (.string (S sp)) := H3.cell 1
    have d2 : (w2.alloc (.cells #[.pointer none, .slice none 0 0] 63)).cell? ⟨w.heap.size, 2, none⟩ = some (.string (S nm)) := H3.cell 2
    have d3 : (w2.alloc (.cells #[.pointer none, .slice none 0 0] 63)).cell? ⟨w.heap.size, 3, none⟩ = some (.slice Aa na ca) := H3.cell 3
    have d4 : (w2.alloc (.cells #[.pointer none, .slice none 0 0] 63)).cell? ⟨w.heap.size, 4, none⟩ = some (.slice Ak nk ck) := H3.cell 4
    clear hg
    have K3 : Below w2.heap.size w2 (w2.alloc (.cells #[.pointer none, .slice none 0 0] 63)) := (Below.refl _ _).alloc (Nat.le_refl _) _
    have W3 : WrX w (w2.alloc (.cells #[.pointer none, .slice none 0 0] 63)) w2.heap.size [] := ⟨HE.out, K2.out.trans (K3.mono K2.out.size), Wtr.new w2 w.heap.size _ rfl K2.out.size, by simp⟩
    have EL := elW_all nd w (w2.alloc (.cells #[.pointer none, .slice none 0 0] 63)) w2.heap.size [] [] ⟨#[]⟩ _ W3 (NdV.keep (KeepN.below K3 (fun _ h => h)) _ _ N2.out) WNN.out rfl
    have EL : Hid (Calls Tryz.prog 30 #[.pointer (some ⟨w2.heap.size, 0, none⟩), .agg #[.string (S t), .string (S sp), .string (S nm), .slice Aa na ca, .slice Ak nk ck], .string ⟨#[]⟩] (w2.alloc (.cells #[.pointer none, .slice none 0 0] 63)) (PostW w (w2.alloc (.cells #[.pointer none, .slice none 0 0] 63)) w2.heap.size [] (Xml.form nd []))) := EL
    clear K3 W3 N2 H2 H3
    go_wp2_with fail
    refine (demand_ok _ _).mono ?_
    rintro e wx ⟨rfl, rfl⟩
    go_wp2_with fail
    refine EL.out.mono ?_
    rintro e w4 ⟨c4, k4, p4⟩
    rcases p4 with ⟨h5, rfl, h6⟩ | ⟨h5, rfl⟩
    · have h5 : (Xml.form nd []).length ≤ 65536 := by simpa using h5
      have R2 : R = (0, Xml.form nd []) := by rw [RR.out, if_neg (by omega)]
      have ST := Lib.hid (stringW_any _ _ _ _ h6.wt (by rw [List.nil_append]; exact Xml.form_ne nd []))
      have F : Hid (EndsF nd (.returned (.string (S ([] ++ Xml.form nd []))))) := EF.out _ (by rw [R2, List.nil_append]; exact .inl ⟨rfl, rfl⟩)
      have C4 := Lib.hid c4
      clear c4 k4 h5 h6 R2 EL d0 d1 d2 d3 d4
      go_wp2_with fail
      refine ST.out.mono ?_
      rintro e w5 ⟨rfl, b5⟩
      have C5 := Lib.hid (C4.out.trans b5)
      clear b5 ST
      go_wp2_with fail
      go_ret
      exact ⟨C5.out, F.out⟩
    · have h5 : 65536 < (Xml.form nd []).length := by simpa using h5
      have R2 : R = (5, []) := by rw [RR.out, if_pos h5]
      exact ⟨rfl, c4, EF.out _ (by rw [R2]; exact .inr ⟨by decide, rfl, rfl⟩)⟩
/-- What the inner function of Write ends with. -/
def EndsJ (nd : Xml.Nd) (W : World) (b : Nat) (e : Ending) (w2 : World) : Prop :=
  ((Xml.wrote nd).1 = 0 ∧ e = .returned (.tuple #[]) ∧ Held w2 b 9 #[.string (S (Xml.wrote nd).2)] ∧ Only [b] W w2) ∨
  ((Xml.wrote nd).1 ≠ 0 ∧ (Xml.wrote nd).2 = [] ∧ e = .panicked [{ v := troubleX (Xml.wrote nd).1, recovered := false }] ∧ Below W.heap.size W w2)
set_option maxRecDepth 100000 in
set_option maxHeartbeats 4000000 in
theorem write1X_any (W : World) (E0 : EnvX W) (nd : Xml.Nd) (m : NC) (hS : SmN nd) (hN : NdV W (fun _ => True) nd m) (q b : Nat) (hq : Held W q 28 #[.string (S m.text), .string (S m.space), .string (S m.name), m.attrs, m.kids]) (hb : Held W b 9 #[.string ⟨#[]⟩]) :
    Calls Tryz.prog 16 #[.pointer (some ⟨q, 0, none⟩), .pointer (some ⟨b, 0, none⟩)] W fun e w2 => EndsJ nd W b e w2 := by
  have WR := Lib.hid (writeX_any W E0 nd m hS hN)
  obtain ⟨⟨A1, k1, c1, h1⟩, A2, k2, c2, h2⟩ := hN.slices
  obtain ⟨t, sp, nm, va, vk⟩ := m
  have h1 : va = .slice A1 k1 c1 := h1
  have h2 : vk = .slice A2 k2 c2 := h2
  subst h1 h2
  have q0 : W.cell? ⟨q, 0, none⟩ = some (.string (S t)) := hq.cell 0
  have q1 : W.cell? ⟨q, 1, none⟩ = some (.string (S sp)) := hq.cell 1
  have q2 : W.cell? ⟨q, 2, none⟩ = some (.string (S nm)) := hq.cell 2
  have q3 : W.cell? ⟨q, 3, none⟩ = some (.slice A1 k1 c1) := hq.cell 3
  have q4 : W.cell? ⟨q, 4, none⟩ = some (.slice A2 k2 c2) := hq.cell 4
  have WR : Hid (Calls Tryz.prog 17 #[.agg #[.string (S t), .string (S sp), .string (S nm), .slice A1 k1 c1, .slice A2 k2 c2]] W fun e w' => Below W.heap.size W w' ∧ EndsF nd e) := WR.out
  have HB := Lib.hid hb
  clear hS hN hq hb E0
  go_enter Tryz.func16, Tryz.ntmps16
  go_wp2_with fail
  refine WR.out.mono ?_
  rintro e w1 ⟨b1, X1⟩
  rcases X1 with ⟨h0, rfl⟩ | ⟨h0, h3, rfl⟩
  · have H1 := Held.below HB.out b1 HB.out.lt
    have i0 := H1.cell 0
    have y0 := H1.frozen 0
    have F : Hid (EndsJ nd W b (.returned (.tuple #[])) (w1.setCell ⟨b, 0, none⟩ (.string (S (Xml.wrote nd).2)))) := .inl ⟨h0, rfl, H1.set_ 0 _, (Only.of_below b1).setCell (p := ⟨b, 0, none⟩) (.inl (by simp)) _⟩
    clear H1 h0 b1 WR
    go_wp2_with fail
    exact bodyPost_ret (results_none rfl _ _ _) rfl F.out
  · exact ⟨rfl, .inr ⟨h0, h3, rfl, b1⟩⟩
set_option maxRecDepth 100000 in
set_option maxHeartbeats 8000000 in
theorem write_any (w : World) (E0 : EnvX w) (nd : Xml.Nd) (m : NC) (hS : SmN nd) (hN : NdV w (fun _ => True) nd m) :
    Calls Tryz.prog 10 #[m.val] w fun e w' => Below w.heap.size w w' ∧ e = .returned (.tuple #[.string (S (Xml.wrote nd).2), .int .i64 ((Xml.wrote nd).1 : Int)]) := by
  obtain ⟨⟨A1, k1, c1, h1⟩, A2, k2, c2, h2⟩ := hN.slices
  obtain ⟨t, sp, nm, va, vk⟩ := m
  have h1 : va = .slice A1 k1 c1 := h1
  have h2 : vk = .slice A2 k2 c2 := h2
  subst h1 h2
  show Calls Tryz.prog 10 #[.agg #[.string (S t), .string (S sp), .string (S nm), .slice A1 k1 c1, .slice A2 k2 c2]] w _
  obtain ⟨W, hW⟩ : ∃ x, x = (w.alloc (.cells #[.string (S t), .string (S sp), .string (S nm), .slice A1 k1 c1, .slice A2 k2 c2] 28)).alloc (.cells #[.string ⟨#[]⟩] 9) := ⟨_, rfl⟩
  obtain ⟨W2, hW2⟩ : ∃ x, x = W.alloc (.cells #[.int .i64 0] 29) := ⟨_, rfl⟩
  have ws : W.heap.size = w.heap.size + 2 := by rw [hW]; simp
  have K1 : Below w.heap.size w W := by rw [hW]; exact ((Below.refl _ _).alloc (Nat.le_refl _) _).alloc (by simp) _
  have K2 : Below W.heap.size W W2 := by rw [hW2]; exact (Below.refl _ _).alloc (Nat.le_refl _) _
  have q2 : Held W2 w.heap.size 28 #[.string (S t), .string (S sp), .string (S nm), .slice A1 k1 c1, .slice A2 k2 c2] := by rw [hW2, hW]; exact ((Held.new w _ _ rfl).alloc _).alloc _
  have b2 : Held W2 (w.heap.size + 1) 9 #[.string ⟨#[]⟩] := by rw [hW2, hW]; exact (Held.new _ _ _ (by simp)).alloc _
  have e2 : Held W2 W.heap.size 29 #[.int .i64 0] := by rw [hW2]; exact Held.new _ _ _ rfl
  have w2s : W2.heap.size = w.heap.size + 3 := by rw [hW2]; simp [ws]
  have KW := K1.trans (K2.mono K1.size)
  have P1 := write1X_any W2 (E0.below KW) nd _ hS (NdV.keep (KeepN.below KW (fun _ h => h)) _ _ hN) w.heap.size (w.heap.size + 1) q2 b2
  obtain ⟨R, hR⟩ : ∃ x, x = Xml.wrote nd := ⟨_, rfl⟩
  unfold EndsJ at P1
  rw [← hR] at P1 ⊢
  have AT := attemptX_any 16 #[.pointer (some ⟨w.heap.size, 0, none⟩), .pointer (some ⟨w.heap.size + 1, 0, none⟩)] W
    (fun w2 => R.1 = 0 ∧ Held w2 (w.heap.size + 1) 9 #[.string (S R.2)] ∧ Below w.heap.size w w2)
    (fun err w2 => err = (R.1 : Int) ∧ R.2 = [] ∧ Held w2 (w.heap.size + 1) 9 #[.string ⟨#[]⟩] ∧ Below w.heap.size w w2) (fun _ => rfl) (by
      rw [← hW2]
      refine P1.mono ?_
      rintro e w2 (⟨h1, rfl, h4, h5⟩ | ⟨h1, h6, rfl, h3⟩)
      · refine ⟨e2.only h5 (by simp; omega), .inl ⟨rfl, h1, h4, h5.from_ KW (fun x hx => by
          have : x = w.heap.size + 1 := by simpa using hx
          omega)⟩⟩
      · exact ⟨Held.below e2 h3 e2.lt, .inr ⟨(R.1 : Int), rfl, rfl, h6, Held.below b2 h3 b2.lt, KW.trans (h3.mono KW.size)⟩⟩)
  have AT := Lib.hid AT
  have hmf : ∀ (fn : Fn) (first cap : Array Value) (w : World), (Instr.makeFunc fn first cap).run Tryz.prog w = .ok (.func fn first cap) w := fun _ _ _ _ => rfl
  have HW := Lib.hid hW
  have WS := Lib.hid ws
  rw [hW] at AT
  clear P1 KW w2s e2 b2 q2 K2 K1 ws hW hW2 hR E0 hS hN
  go_enter Tryz.func10, Tryz.ntmps10
  go_wp2_with fail
  refine AT.out.mono ?_
  rintro e w3 ⟨w2, ⟨⟨h1, h3, h4⟩, rfl, hw3⟩ | ⟨err, o, ⟨rfl, h1, h2, h3⟩, rfl, hw3⟩⟩
  · rw [← HW.out, WS.out] at hw3
    have H3 : Hid (Held w3 (w.heap.size + 1) 9 #[.string (S R.2)]) := by rw [hw3]; exact h3.far (p := ⟨w.heap.size + 2, 0, none⟩) (by show w.heap.size + 1 ≠ w.heap.size + 2; omega) _
    have K3 : Hid (Below w.heap.size w w3) := by rw [hw3]; exact h4.setCell (p := ⟨w.heap.size + 2, 0, none⟩) (by show w.heap.size ≤ w.heap.size + 2; omega) _
    have i0 := H3.out.cell 0
    have y0 := H3.out.frozen 0
    have F4 : Hid (Held (w3.setCell ⟨w.heap.size + 1, 0, none⟩ (.string (S R.2))) (w.heap.size + 1) 9 #[.string (S R.2)] ∧ Below w.heap.size w (w3.setCell ⟨w.heap.size + 1, 0, none⟩ (.string (S R.2)))) := ⟨H3.out.set_ 0 _, K3.out.setCell (p := ⟨w.heap.size + 1, 0, none⟩) (by show w.heap.size ≤ w.heap.size + 1; omega) _⟩
    have R1 := Lib.hid h1
    clear hw3 h1 h3 h4 AT HW WS H3
    go_wp2_with fail
    refine bodyPost_ret (res_cell_tmpX _ _ 3 2 9 (.int .i64 0) _ _ Tryz.results10 rfl rfl (load_oneX (Tryz.isAgg9 _) F4.out.1)) rfl ⟨F4.out.2, by rw [R1.out]; rfl⟩
  · rw [← HW.out, WS.out] at hw3
    have H3 : Hid (Held w3 (w.heap.size + 1) 9 #[.string ⟨#[]⟩]) := by rw [hw3]; exact (h2.alloc o).far (p := ⟨w.heap.size + 2, 0, none⟩) (by show w.heap.size + 1 ≠ w.heap.size + 2; omega) _
    have K3 : Hid (Below w.heap.size w w3) := by rw [hw3]; exact (h3.alloc h3.size o).setCell (p := ⟨w.heap.size + 2, 0, none⟩) (by show w.heap.size ≤ w.heap.size + 2; omega) _
    have i0 := H3.out.cell 0
    have y0 := H3.out.frozen 0
    have F4 : Hid (Held (w3.setCell ⟨w.heap.size + 1, 0, none⟩ (.string ⟨#[]⟩)) (w.heap.size + 1) 9 #[.string ⟨#[]⟩] ∧ Below w.heap.size w (w3.setCell ⟨w.heap.size + 1, 0, none⟩ (.string ⟨#[]⟩))) := ⟨H3.out.set_ 0 _, K3.out.setCell (p := ⟨w.heap.size + 1, 0, none⟩) (by show w.heap.size ≤ w.heap.size + 1; omega) _⟩
    have R1 := Lib.hid h1
    clear hw3 h1 h2 h3 AT HW WS H3
    go_wp2_with fail
    refine bodyPost_ret (res_cell_tmpX _ _ 3 2 9 (.int .i64 (R.1 : Int)) _ _ Tryz.results10 rfl rfl (load_oneX (Tryz.isAgg9 _) F4.out.1)) rfl ⟨F4.out.2, by rw [R1.out]; rfl⟩
end Go.Proofs.YteefjmdallpihaaGreatDoor
