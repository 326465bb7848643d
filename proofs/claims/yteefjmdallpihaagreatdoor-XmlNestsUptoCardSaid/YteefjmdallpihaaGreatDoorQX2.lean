/-
  xml: a strings.Builder of the call's own: WriteString, String (R11, for this seat).
-/
import Derived.Test.YteefjmdallpihaaGreatDoorQX1
import Derived.Shelf.Strings.BuilderK
namespace Go.Proofs.YteefjmdallpihaaGreatDoor
open Go.RowKit

theorem info5 : (Tryz.prog.info? 5).map (fun i => (i.zero, i.size, i.bytes)) = some (some (.int .u8 0), 1, 1) := by kernel_rfl
theorem bsize : (Tryz.prog.info? 61).map (·.size) = some 2 := by kernel_rfl
theorem blies : liesAt Tryz.prog Tryz.prog.depth 61 (2 / Tryz.prog.cellsOf 61) 0 61 1 = true := by kernel_rfl
theorem bne : (61 : TypeId) ≠ 5 := by decide

set_option maxHeartbeats 1000000 in
set_option maxRecDepth 100000 in
theorem check_used (b : Nat) (w : World) (h0 : w.cell? ⟨b, 0, none⟩ = some (.pointer (some ⟨b, 0, none⟩))) :
    Calls Tryz.prog 92 #[.pointer (some ⟨b, 0, none⟩)] w fun e w' => e = .returned (.tuple #[]) ∧ w' = w := by
  obtain ⟨j, hj, _⟩ := Option.map_eq_some_iff.1 bsize
  go_enter Tryz.func92, Tryz.ntmps92
  go_wp2
  rw [Lib.run_neq_ptr_same w _ Tryz.underlying59 hj]
  go_wp2
  go_end0
  exact ⟨rfl, rfl⟩
set_option maxHeartbeats 1000000 in
set_option maxRecDepth 100000 in
theorem check_fresh (b : Nat) (w : World) (h0 : w.cell? ⟨b, 0, none⟩ = some (.pointer none)) (hsh : w.shape? b = some (61, 2)) (hfz : w.frozen? ⟨b, 0, none⟩ = false) :
    Calls Tryz.prog 92 #[.pointer (some ⟨b, 0, none⟩)] w fun e w' => e = .returned (.tuple #[]) ∧ w' = w.setCell ⟨b, 0, none⟩ (.pointer (some ⟨b, 0, none⟩)) := by
  obtain ⟨j, hj, hjs⟩ := Option.map_eq_some_iff.1 bsize
  go_enter Tryz.func92, Tryz.ntmps92
  go_wp2
  rw [Lib.run_to_unsafe w ⟨b, 0, none⟩ Tryz.underlying59 Tryz.underlying133 hj (by rw [hjs]; decide) hsh (Nat.zero_lt_succ 1)]
  simp only [Result.andThen]
  rw [Oper.upon_value]
  go_wp2
  rw [run_callFunc_extern Tryz.func104 (by kernel_rfl) (by kernel_rfl) (by kernel_rfl) (e := Extern.AbiNoEscape.same) (by kernel_rfl)]
  rw [Lib.run_noEscape]
  simp only [Result.andThen]
  rw [Oper.upon_value]
  go_wp2
  rw [Lib.run_from_unsafe w ⟨b, 0, none⟩ Tryz.underlying133 Tryz.underlying59 hj hsh blies]
  simp only [Result.andThen]
  rw [Oper.upon_value]
  go_wp2
  go_end0
  exact ⟨rfl, rfl⟩
/-- Blocks that are neither the builder nor bytes are as they were. -/
def BKept (b : Nat) (w w' : World) : Prop := w.heap.size ≤ w'.heap.size ∧ ∀ g cs t mk, w.heap[g]? = some (.cells cs t mk) → g ≠ b → t ≠ 5 → w'.heap[g]? = w.heap[g]?
theorem BKept.refl (b : Nat) (w : World) : BKept b w w := ⟨Nat.le_refl _, fun _ _ _ _ _ _ _ => rfl⟩
theorem BKept.trans {b : Nat} {u v w : World} (h : BKept b u v) (k : BKept b v w) : BKept b u w := ⟨Nat.le_trans h.1 k.1, fun g cs t mk hg hb ht => (k.2 g cs t mk ((h.2 g cs t mk hg hb ht).trans hg) hb ht).trans (h.2 g cs t mk hg hb ht)⟩
theorem BKept.set (b i : Nat) (w : World) (u : Value) : BKept b w (w.setCell ⟨b, i, none⟩ u) := ⟨by simp [World.setCell], fun g _ _ _ _ hb _ => Below.heap_setCell w ⟨b, i, none⟩ u g hb⟩
theorem BKept.below {b : Nat} {w w' : World} (h : Below w.heap.size w w') : BKept b w w' := ⟨h.size, fun g _ _ _ hg _ _ => h.block g (Array.getElem?_eq_some_iff.1 hg).1⟩
theorem BKept.grown {b B n : Nat} {w w' : World} {v : Value} {xs : List Value} (ho : w.ownsRowF B 5 1 v n xs) (hg : w.grownBy w' v.ownBlock) : BKept b w w' := ⟨hg.size, fun g cs t mk hh _ ht => hg.block g (Array.getElem?_eq_some_iff.1 hh).1 (fun e => by
  rcases ho.2 with ⟨rfl, _⟩ | ⟨g', cap, cur, fz, rfl, _, hh', _⟩
  · cases e
  · have e1 : g' = g := by simpa [Value.ownBlock] using e.symm
    subst e1
    rw [hh] at hh'
    injection hh' with hh'
    injection hh' with _ h2
    exact ht h2)⟩
theorem check_any (B b : Nat) (bs : List Value) (w : World) (h : Lib.IsBuilderF 61 5 B b bs w) :
    Calls Tryz.prog 92 #[.pointer (some ⟨b, 0, none⟩)] w fun e w' => e = .returned (.tuple #[]) ∧ (Lib.BuilderAtF 61 5 B b (.pointer (some ⟨b, 0, none⟩)) bs w' ∧ Below B w w' ∧ BKept b w w') := by
  rcases h with h | h
  · refine (check_fresh b w h.cell0 h.shape h.frozen0).mono ?_
    rintro e w' ⟨rfl, rfl⟩
    exact ⟨rfl, h.used _, (Below.refl B w).setCell (p := ⟨b, 0, none⟩) h.1 _, BKept.set b 0 w _⟩
  · refine (check_used b w h.cell0).mono ?_
    rintro e w' ⟨rfl, rfl⟩
    exact ⟨rfl, h, Below.refl B _, BKept.refl b _⟩

/-- A builder in block b whose bytes are l; what it has laid lies from B on. -/
def Bld (w : World) (B b : Nat) (l : List Nat) : Prop := Lib.IsBuilderF 61 5 B b (l.map u8v) w ∧ ∀ x ∈ l, x < 256
theorem Bld.new (w : World) (B b : Nat) (hb : b = w.heap.size) (hB : B ≤ w.heap.size) : Bld (w.alloc (.cells #[.pointer none, .slice none 0 0] 61)) B b [] := by
  subst hb
  exact ⟨.inl ⟨hB, .slice none 0 0, heap_alloc_new w _, World.ownsRowF_nil _ _ _ _, by simp [Value.ownBlock]⟩, by simp⟩
theorem Bld.drew {w : World} {B b : Nat} {l : List Nat} (h : Bld w B b l) : Bld w.drew B b l := h
theorem Bld.drewN {w : World} {B b : Nat} {l : List Nat} (h : Bld w B b l) (n : Nat) : Bld (w.drewN n) B b l := h
theorem Bld.below {w w' : World} {B b : Nat} {l : List Nat} (h : Bld w B b l) (k : Below w.heap.size w w') : Bld w' B b l := by
  have key : ∀ p, Lib.BuilderAtF 61 5 B b p (l.map u8v) w → Lib.BuilderAtF 61 5 B b p (l.map u8v) w' := by
    rintro p ⟨hB, v, hb, hown, hne⟩
    refine ⟨hB, v, (k.block b (Array.getElem?_eq_some_iff.1 hb).1).trans hb, ⟨hown.1, ?_⟩, hne⟩
    rcases hown.2 with h0 | ⟨g, cap, cur, fz, hv, hg, hh, r⟩
    · exact .inl h0
    · exact .inr ⟨g, cap, cur, fz, hv, hg, (k.block g (Array.getElem?_eq_some_iff.1 hh).1).trans hh, r⟩
  exact ⟨h.1.elim (fun x => .inl (key _ x)) (fun x => .inr (key _ x)), h.2⟩
theorem strCells_nums (s : ByteArray) : Lib.strCells s = (nums s).map u8v := by
  rw [← strB_nums s]
  show Lib.byteCells _ = _
  rw [byteCells_strB (nums_lt s), strB_nums]
set_option maxHeartbeats 2000000 in
set_option maxRecDepth 100000 in
theorem wstring_any (B b : Nat) (l : List Nat) (s : ByteArray) (w : World) (h : Bld w B b l) (hlen : l.length + s.size ≤ 140737488355000) (hBw : B ≤ w.heap.size) :
    Calls Tryz.prog 71 #[.pointer (some ⟨b, 0, none⟩), .string s] w fun e w' => (∃ v, e = .returned v) ∧ Bld w' B b (l ++ nums s) ∧ Below B w w' ∧ BKept b w w' := by
  obtain ⟨i0, hi, hz0, hz1, hz2⟩ := info_parts info5
  have CC := Lib.hid (check_any B b _ w h.1)
  have H8 : Hid (∀ y ∈ l ++ nums s, y < 256) := fun y hy => by
    rcases List.mem_append.1 hy with hy | hy
    · exact h.2 y hy
    · exact nums_lt s y hy
  have HL : Hid ((l.map u8v).length = l.length) := by show _ = _; simp
  clear h
  go_enter Tryz.func71, Tryz.ntmps71
  go_wp2_with fail
  refine CC.out.mono ?_
  rintro e w1 ⟨rfl, ⟨hB, v, hbk, hown, hne⟩, hb1, hk1⟩
  have c0 : w1.cell? ⟨b, 0, none⟩ = some (.pointer (some ⟨b, 0, none⟩)) := by rw [Lib.cell_of_heap hbk]; rfl
  have c1 : w1.cell? ⟨b, 1, none⟩ = some v := by rw [Lib.cell_of_heap hbk]; rfl
  clear CC
  go_wp2_with (at_builtin; refine Lib.wpList_append_own_stringF _ rfl _ _ 24 9 rfl B 5 i0 Tryz.underlying24 Tryz.underlying9 hi hz0 hz1 hz2 _ _ _ rfl hown s rfl ?q3 ?q4 ?q5 ?_)
  case q3 => rw [HL.out]; unfold maxLen; omega
  case q4 => rw [HL.out]; omega
  case q5 => have := hb1.size; omega
  intro v' w2 hown' hgrow _
  have hlt : b < w1.heap.size := (Array.getElem?_eq_some_iff.1 hbk).1
  have hb2 : w2.heap[b]? = some (.cells #[.pointer (some ⟨b, 0, none⟩), v] 61 (0, 0)) := by
    rw [hgrow.block b hlt (fun e => hne e.symm)]
    exact hbk
  have d0 : w2.cell? ⟨b, 0, none⟩ = some (.pointer (some ⟨b, 0, none⟩)) := by rw [Lib.cell_of_heap hb2]; rfl
  have d1 : w2.cell? ⟨b, 1, none⟩ = some v := by rw [Lib.cell_of_heap hb2]; rfl
  have f1 : w2.frozen? ⟨b, 1, none⟩ = false := Lib.frozen_of_heap hb2 1
  obtain ⟨ao, n', cap, rfl⟩ : ∃ ao n' cap, v' = .slice ao n' cap := by
    rcases hown'.2 with ⟨hv, _⟩ | ⟨g, cap, cur, fz, hv, _⟩
    · exact ⟨_, _, _, hv⟩
    · exact ⟨_, _, _, hv⟩
  go_wp2
  go_ret2
  refine ⟨⟨_, rfl⟩, ⟨.inr ?_, H8.out⟩, ?_, (hk1.trans (BKept.grown hown hgrow)).trans (BKept.set b 1 w2 _)⟩
  · have := Lib.BuilderAtF.put (T := 61) (e := 5) hB hb2 (bs' := l.map u8v ++ Lib.strCells s) (by simpa [Lib.strCells_length] using hown') bne
    rw [List.map_append, ← strCells_nums]
    exact this
  · exact (hb1.grown hgrow (by have := hb1.size; omega) (fun k hk => (hown.lt k hk).1)).setCell (p := ⟨b, 1, none⟩) hB _
theorem text_any (B b : Nat) (l : List Nat) (w : World) (h : Bld w B b l) (hBw : B ≤ w.heap.size) :
    Calls Tryz.prog 31 #[.pointer (some ⟨b, 0, none⟩)] w fun e w' => e = .returned (.string (strB l)) ∧ Below B w w' := by
  have e1 : Lib.byteCells (strB l).data.toList = l.map u8v := byteCells_strB h.2
  have h1 := h.1
  rw [← e1] at h1
  refine (Tryz.Builder_String_any_k B b _ w h1 hBw).mono ?_
  rintro e w' ⟨rfl, _, hb, _⟩
  exact ⟨rfl, hb⟩
/-- The builder's bytes as a list of bytes. -/
def BldU (w : World) (base b : Nat) (l : Reply.B) : Prop := Bld w base b (l.map fun x : UInt8 => x.toNat)
theorem BldU.new (w : World) (base b : Nat) (hb : b = w.heap.size) (hB : base ≤ w.heap.size) : BldU (w.alloc (.cells #[.pointer none, .slice none 0 0] 61)) base b [] := Bld.new w base b hb hB
theorem BldU.below {w w' : World} {base b : Nat} {l : Reply.B} (h : BldU w base b l) (k : Below w.heap.size w w') : BldU w' base b l := Bld.below h k
theorem BldU.drewN {w : World} {base b : Nat} {l : Reply.B} (h : BldU w base b l) (n : Nat) : BldU (w.drewN n) base b l := h
theorem wstringU (base b : Nat) (l m : Reply.B) (w : World) (h : BldU w base b l) (hlen : l.length + m.length ≤ 140737488355000) (hBw : base ≤ w.heap.size) :
    Calls Tryz.prog 71 #[.pointer (some ⟨b, 0, none⟩), .string (S m)] w fun e w' => (∃ v, e = .returned v) ∧ BldU w' base b (l ++ m) ∧ Below base w w' ∧ BKept b w w' := by
  refine (wstring_any base b (l.map fun x : UInt8 => x.toNat) (S m) w h (by rw [S_size]; simpa using hlen) hBw).mono ?_
  rintro e w' ⟨h0, h1, h2, h3⟩
  exact ⟨h0, by unfold BldU; rw [nums_S] at h1; simpa using h1, h2, h3⟩
theorem textU (base b : Nat) (l : Reply.B) (w : World) (h : BldU w base b l) (hBw : base ≤ w.heap.size) :
    Calls Tryz.prog 31 #[.pointer (some ⟨b, 0, none⟩)] w fun e w' => e = .returned (.string (S l)) ∧ Below base w w' := by
  refine (text_any base b (l.map fun x : UInt8 => x.toNat) w h hBw).mono ?_
  rintro e w' ⟨rfl, h1⟩
  exact ⟨by rw [strB_map], h1⟩
/-- Grow, on a new builder. -/
theorem growU (base b n : Nat) (w : World) (hB : base ≤ b) (hbk : w.heap[b]? = some (.cells #[.pointer none, .slice none 0 0] 61 (0, 0))) (hBw : base ≤ w.heap.size) (hn : n ≤ 281474976710656) :
    Calls Tryz.prog 121 #[.pointer (some ⟨b, 0, none⟩), .int .i64 n] w fun e w' => e = .returned (.tuple #[]) ∧ BldU w' base b [] ∧ Below base w w' := by
  refine (Tryz.Builder_Grow_fresh base b n w hB hbk hBw hn).mono ?_
  rintro e w' ⟨rfl, h1, h2⟩
  refine ⟨rfl, ⟨.inr ?_, by simp⟩, h2⟩
  exact Lib.BuilderAtF.of h1
end Go.Proofs.YteefjmdallpihaaGreatDoor
