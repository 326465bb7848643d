/-
  blob: a strings.Builder of the call's own: Write, String.
-/
import Derived.Test.YtlofpbmceipkkaaM12
import Derived.Test.YtlofpbmceipkkaaLaid
import Derived.Shelf.Strings.BuilderK
namespace Go.Proofs.Ytlofpbmceipkkaa
open Go.RowKit

theorem bsize : (Try.prog.info? 79).map (·.size) = some 2 := by kernel_rfl
theorem blies : liesAt Try.prog Try.prog.depth 79 (2 / Try.prog.cellsOf 79) 0 79 1 = true := by kernel_rfl
theorem bne : (79 : TypeId) ≠ 5 := by decide

set_option maxHeartbeats 1000000 in
set_option maxRecDepth 100000 in
theorem check_used (b : Nat) (w : World) (h0 : w.cell? ⟨b, 0, none⟩ = some (.pointer (some ⟨b, 0, none⟩))) :
    Calls Try.prog 49 #[.pointer (some ⟨b, 0, none⟩)] w fun e w' => e = .returned (.tuple #[]) ∧ w' = w := by
  obtain ⟨j, hj, _⟩ := Option.map_eq_some_iff.1 bsize
  go_enter Try.func49, Try.ntmps49
  go_wp2
  rw [Lib.run_neq_ptr_same w _ Try.underlying77 hj]
  go_wp2
  go_end0
  exact ⟨rfl, rfl⟩
set_option maxHeartbeats 1000000 in
set_option maxRecDepth 100000 in
theorem check_fresh (b : Nat) (w : World) (h0 : w.cell? ⟨b, 0, none⟩ = some (.pointer none)) (hsh : w.shape? b = some (79, 2)) (hfz : w.frozen? ⟨b, 0, none⟩ = false) :
    Calls Try.prog 49 #[.pointer (some ⟨b, 0, none⟩)] w fun e w' => e = .returned (.tuple #[]) ∧ w' = w.setCell ⟨b, 0, none⟩ (.pointer (some ⟨b, 0, none⟩)) := by
  obtain ⟨j, hj, hjs⟩ := Option.map_eq_some_iff.1 bsize
  go_enter Try.func49, Try.ntmps49
  go_wp2
  rw [Lib.run_to_unsafe w ⟨b, 0, none⟩ Try.underlying77 Try.underlying109 hj (by rw [hjs]; decide) hsh (Nat.zero_lt_succ 1)]
  simp only [Result.andThen]
  rw [Oper.upon_value]
  go_wp2
  rw [run_callFunc_extern Try.func56 (by kernel_rfl) (by kernel_rfl) (by kernel_rfl) (e := Extern.AbiNoEscape.same) (by kernel_rfl)]
  rw [Lib.run_noEscape]
  simp only [Result.andThen]
  rw [Oper.upon_value]
  go_wp2
  rw [Lib.run_from_unsafe w ⟨b, 0, none⟩ Try.underlying109 Try.underlying77 hj hsh blies]
  simp only [Result.andThen]
  rw [Oper.upon_value]
  go_wp2
  go_end0
  exact ⟨rfl, rfl⟩
theorem check_any (B b : Nat) (bs : List Value) (w : World) (h : Lib.IsBuilderF 79 5 B b bs w) :
    Calls Try.prog 49 #[.pointer (some ⟨b, 0, none⟩)] w fun e w' => e = .returned (.tuple #[]) ∧ (Lib.BuilderAtF 79 5 B b (.pointer (some ⟨b, 0, none⟩)) bs w' ∧ Below B w w' ∧ Only [b] w w') := by
  rcases h with h | h
  · refine (check_fresh b w h.cell0 h.shape h.frozen0).mono ?_
    rintro e w' ⟨rfl, rfl⟩
    exact ⟨rfl, h.used _, (Below.refl B w).setCell (p := ⟨b, 0, none⟩) h.1 _, (Only.refl [b] w).setCell (p := ⟨b, 0, none⟩) (.inl (by simp)) _⟩
  · refine (check_used b w h.cell0).mono ?_
    rintro e w' ⟨rfl, rfl⟩
    exact ⟨rfl, h, Below.refl B _, Only.refl _ _⟩

/-- A builder in block b whose bytes are l; what it has laid lies from B on. -/
def Bld (w : World) (B b : Nat) (l : List Nat) : Prop := Lib.IsBuilderF 79 5 B b (l.map u8v) w ∧ ∀ x ∈ l, x < 256
theorem Bld.new (w : World) (B b : Nat) (hb : b = w.heap.size) (hB : B ≤ w.heap.size) : Bld (w.alloc (.cells #[.pointer none, .slice none 0 0] 79)) B b [] := by
  subst hb
  exact ⟨.inl ⟨hB, .slice none 0 0, heap_alloc_new w _, World.ownsRowF_nil _ _ _ _, by simp [Value.ownBlock]⟩, by simp⟩
theorem Bld.drew {w : World} {B b : Nat} {l : List Nat} (h : Bld w B b l) : Bld w.drew B b l := h
theorem Bld.drewN {w : World} {B b : Nat} {l : List Nat} (h : Bld w B b l) (n : Nat) : Bld (w.drewN n) B b l := h
theorem Bld.below {w w' : World} {B b : Nat} {l : List Nat} (h : Bld w B b l) (k : Below w.heap.size w w') : Bld w' B b l := by
  have key : ∀ p, Lib.BuilderAtF 79 5 B b p (l.map u8v) w → Lib.BuilderAtF 79 5 B b p (l.map u8v) w' := by
    rintro p ⟨hB, v, hb, hown, hne⟩
    refine ⟨hB, v, (k.block b (Array.getElem?_eq_some_iff.1 hb).1).trans hb, ⟨hown.1, ?_⟩, hne⟩
    rcases hown.2 with h0 | ⟨g, cap, cur, fz, hv, hg, hh, r⟩
    · exact .inl h0
    · exact .inr ⟨g, cap, cur, fz, hv, hg, (k.block g (Array.getElem?_eq_some_iff.1 hh).1).trans hh, r⟩
  exact ⟨h.1.elim (fun x => .inl (key _ x)) (fun x => .inr (key _ x)), h.2⟩
theorem Bld.lt {w : World} {B b : Nat} {l : List Nat} (h : Bld w B b l) : b < w.heap.size := by
  rcases h.1 with h | h
  · exact (Array.getElem?_eq_some_iff.1 h.2.choose_spec.1).1
  · exact (Array.getElem?_eq_some_iff.1 h.2.choose_spec.1).1
set_option maxHeartbeats 2000000 in
set_option maxRecDepth 100000 in
theorem bwrite_any (B b : Nat) (l : List Nat) (w : World) (h : Bld w B b l) (A : Addr) (m c : Nat) (l2 : List Nat) (hl2 : Bts w (some A) m l2) (hA : A.block ≠ b) (hlen : l.length + m ≤ 140737488355000) (hBw : B ≤ w.heap.size) :
    Calls Try.prog 38 #[.pointer (some ⟨b, 0, none⟩), .slice (some A) m c] w fun e w' => (∃ v, e = .returned v) ∧ Bld w' B b (l ++ l2) ∧ Below B w w' := by
  obtain ⟨i0, hi, hz0, hz1, hz2⟩ := info_parts info5
  have CC := Lib.hid (check_any B b _ w h.1)
  have H8 : Hid (∀ y ∈ l ++ l2, y < 256) := fun y hy => by
    rcases List.mem_append.1 hy with hy | hy
    · exact h.2 y hy
    · exact hl2.2.1 y hy
  have HL : Hid ((l.map u8v).length = l.length) := by show _ = _; simp
  have HB2 := Lib.hid hl2
  clear h hl2
  go_enter Try.func38, Try.ntmps38
  go_wp2_with fail
  refine CC.out.mono ?_
  rintro e w1 ⟨rfl, ⟨hB, v, hbk, hown, hne⟩, hb1, ho1⟩
  have c0 : w1.cell? ⟨b, 0, none⟩ = some (.pointer (some ⟨b, 0, none⟩)) := by rw [Lib.cell_of_heap hbk]; rfl
  have c1 : w1.cell? ⟨b, 1, none⟩ = some v := by rw [Lib.cell_of_heap hbk]; rfl
  have HB3 : Hid (Bts w1 (some A) m l2) := ho1.bts HB2.out (fun _ x hx => by injection hx with hx; subst hx; simpa using hA)
  clear CC
  go_wp2_with (at_builtin; refine wpList_append_ownF _ rfl _ _ 45 rfl B 5 i0 (.int .u8 0) 1 1 Try.underlying45 hi hz0 hz1 hz2 rfl (by decide) _ _ _ rfl hown A m c (l2.map u8v) rfl ?q0 (HB3.out.at_ rfl) ?q2 ?q3 ?q4 ?q5 ?_)
  case q0 => rw [List.length_map, Nat.mul_one]; exact HB3.out.1
  case q2 => intro u hu; obtain ⟨x, _, rfl⟩ := List.mem_map.1 hu; rfl
  case q3 => rw [HL.out]; unfold maxLen; omega
  case q4 => rw [HL.out]; omega
  case q5 => have := hb1.size; omega
  intro v' w2 hown' hgrow _
  have hlt : b < w1.heap.size := (Array.getElem?_eq_some_iff.1 hbk).1
  have hb2 : w2.heap[b]? = some (.cells #[.pointer (some ⟨b, 0, none⟩), v] 79 (0, 0)) := by
    rw [hgrow.block b hlt (fun e => hne e.symm)]
    exact hbk
  have d0 : w2.cell? ⟨b, 0, none⟩ = some (.pointer (some ⟨b, 0, none⟩)) := by rw [Lib.cell_of_heap hb2]; rfl
  have d1 : w2.cell? ⟨b, 1, none⟩ = some v := by rw [Lib.cell_of_heap hb2]; rfl
  have f1 : w2.frozen? ⟨b, 1, none⟩ = false := Lib.frozen_of_heap hb2 1
  obtain ⟨ao, n', cap, rfl⟩ : ∃ ao n' cap, v' = .slice ao n' cap := by
    rcases hown'.2 with ⟨hv, _⟩ | ⟨g, cap, cur, fz, hv, _⟩
    · exact ⟨_, _, _, hv⟩
    · exact ⟨_, _, _, hv⟩
  go_wp2
  go_ret2
  refine ⟨⟨_, rfl⟩, ⟨.inr ?_, H8.out⟩, ?_⟩
  · have := Lib.BuilderAtF.put (T := 79) (e := 5) hB hb2 (bs' := l.map u8v ++ l2.map u8v) (by rw [List.length_append, show (l2.map u8v).length = m by rw [List.length_map]; exact HB3.out.1, HL.out]; exact hown') bne
    rw [List.map_append]
    exact this
  · exact (hb1.grown hgrow (by have := hb1.size; omega) (fun k hk => (hown.lt k hk).1)).setCell (p := ⟨b, 1, none⟩) hB _
theorem text_any (B b : Nat) (l : List Nat) (w : World) (h : Bld w B b l) (hBw : B ≤ w.heap.size) :
    Calls Try.prog 39 #[.pointer (some ⟨b, 0, none⟩)] w fun e w' => e = .returned (.string (strB l)) ∧ Below B w w' := by
  have e1 : Lib.byteCells (strB l).data.toList = l.map u8v := byteCells_strB h.2
  have h1 := h.1
  rw [← e1] at h1
  refine (Try.Builder_String_any_k B b _ w h1 hBw).mono ?_
  rintro e w' ⟨rfl, _, hb, _⟩
  exact ⟨rfl, hb⟩
end Go.Proofs.Ytlofpbmceipkkaa
