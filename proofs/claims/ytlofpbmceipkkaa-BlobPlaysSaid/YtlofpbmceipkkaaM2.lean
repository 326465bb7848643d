/-
  btree.Mem: NewMem, Take.
-/
import Derived.Test.YtlofpbmceipkkaaM1
import Derived.Deep.WholeRow
namespace Go.Proofs.Ytlofpbmceipkkaa
open Go.RowKit

/-- The least block that is free. -/
def Least (n : Nat) (f : Nat → Option KB) (i : Nat) : Prop := i < n ∧ f i = none ∧ ∀ j, j < i → f j ≠ none
def zeroKB : KB := (List.replicate 512 0, false)
theorem zeroBlock : (Try.prog.info? 152).map (fun i => (i.zero, i.size)) = some (some (.agg (blkC zeroKB)), 513) := by kernel_rfl
theorem zeroPtr : (Try.prog.info? 93).map (fun i => (i.zero, i.size, i.bytes)) = some (some (.pointer none), 1, 8) := by kernel_rfl
theorem run_eql_nil_ptr (w : World) (a : Nat) : (binOp .eql 93 (.pointer none) (.pointer (some ⟨a, 0, none⟩))).run Try.prog w = .ok (.bool false) w := by
  have h1 : ∀ d, (Op.equalIn (d + 1) 93 (.pointer none) (.pointer (some ⟨a, 0, none⟩))).run Try.prog w = .ok false w := fun d => by
    simp [Op.equalIn, run_underlying Try.underlying93]
  have h2 : (Op.equal 93 (.pointer none) (.pointer (some ⟨a, 0, none⟩))).run Try.prog w = .ok false w := h1 9999
  simp [binOp, h2]
def IndexE (n : Nat) (f : Nat → Option KB) (e : Ending) : Prop := (∃ i, Least n f i ∧ e = .returned (.int .i64 (i : Nat))) ∨ ((∀ j, j < n → f j ≠ none) ∧ e = .returned (.int .i64 (-1)))
set_option maxRecDepth 100000 in
theorem index_any (B : Nat) (w : World) (p g n : Nat) (ad : Nat → Nat) (f : Nat → Option KB) (h : MemIs B w p g n ad f) :
    Calls Try.prog 101 #[.slice (some ⟨g, 0, none⟩) n n, .pointer none] w fun e w' => IndexE n f e ∧ w = w' := by
  have H := Lib.hid h
  have hn := h.small
  clear h
  go_enter Try.func101, Try.ntmps101
  go_wp2
  go_loop [8] (fun i => ∃ k : Nat, k ≤ n ∧ i = .int .i64 k ∧ Hid (∀ j, j < k → f j ≠ none)) (fun i => n - (intOf i).toNat)
  case atStart => exact ⟨0, by omega, rfl, fun j hj => by omega⟩
  case round =>
    obtain ⟨k, hk, rfl, HK⟩ := hrel
    by_cases hlt : k < n
    · have c1 := H.out.ptr k hlt
      unfold ptrC at c1
      cases hf : f k with
      | none =>
        rw [hf] at c1
        have R : Hid (IndexE n f (.returned (.int .i64 (k : Nat)))) := .inl ⟨k, ⟨hlt, hf, HK.out⟩, rfl⟩
        clear hf
        go_wp2
        go_ret
        exact ⟨R.out, rfl⟩
      | some x =>
        rw [hf] at c1
        have HK2 : Hid (∀ j, j < k + 1 → f j ≠ none) := fun j hj => by
          rcases Nat.lt_or_ge j k with h | h
          · exact HK.out j h
          · obtain rfl : j = k := by omega
            rw [hf]
            simp
        have q := run_eql_nil_ptr w (ad k)
        clear hf
        go_wp2
        go_round
        case rel => exact ⟨k + 1, by omega, by go_num, HK2⟩
        case measure => simp [intOf]; omega
    · obtain rfl : k = n := by omega
      have R : Hid (IndexE k f (.returned (.int .i64 (-1)))) := .inr ⟨HK.out, rfl⟩
      go_wp2
      go_ret
      exact ⟨R.out, rfl⟩
/-- A store's map, changed at a block. -/
def put (f : Nat → Option KB) (i : Nat) (x : Option KB) : Nat → Option KB := fun j => if j = i then x else f j
theorem rowC_put {n : Nat} {ad : Nat → Nat} {f : Nat → Option KB} (i a : Nat) (x : Option KB) (hi : i < n) : (rowC n ad f).setIfInBounds i (match x with | none => .pointer none | some _ => .pointer (some ⟨a, 0, none⟩)) = rowC n (fun j => if j = i then a else ad j) (put f i x) := by
  apply Array.ext_getElem?
  intro j
  by_cases hj : j = i
  · subst hj
    rw [Array.getElem?_setIfInBounds_self, rowC_at _ _ _ _ hi, if_pos (by simp [rowC]; exact hi)]
    simp only [ptrC, put, if_true]
    cases x <;> rfl
  · rw [Array.getElem?_setIfInBounds_ne (Ne.symm hj)]
    rcases Nat.lt_or_ge j n with h | h
    · rw [rowC_at _ _ _ _ h, rowC_at _ _ _ _ h]
      simp only [ptrC, put, if_neg hj]
    · rw [Array.getElem?_eq_none (by simp [rowC]; exact h), Array.getElem?_eq_none (by simp [rowC]; exact h)]
/-- What a pointer is put into leaves. -/
theorem MemIs.taken {B : Nat} {w : World} {p g n : Nat} {ad : Nat → Nat} {f : Nat → Option KB} (h : MemIs B w p g n ad f) (i : Nat) (hi : i < n) (a : Nat) (x : KB) (ha : Held w a 152 (blkC x)) (hx : x.1.length = 512) (hb : ∀ y ∈ x.1, y < 256) (hB : B ≤ a) (hnew : ∀ j, f j ≠ none → ad j ≠ a) :
    MemIs B (w.setCell ⟨g, i, none⟩ (.pointer (some ⟨a, 0, none⟩))) p g n (fun j => if j = i then a else ad j) (put f i (some x)) := by
  have hp : p ≠ g := Held.ne_ h.blk h.row (by decide)
  refine ⟨h.blk.far (p := ⟨g, i, none⟩) hp _, ?_, fun j k hk => ?_, fun j k hj hk e => ?_, h.base, h.small⟩
  · have := h.row.set_ i (.pointer (some ⟨a, 0, none⟩))
    rwa [rowC_put i a (some x) hi] at this
  · unfold put at hk
    by_cases hj : j = i
    · rw [if_pos hj] at hk
      injection hk with hk
      subst hk
      rw [if_pos hj]
      exact ⟨by omega, ha.far (p := ⟨g, i, none⟩) (Held.ne_ ha h.row (by decide)) _, hx, hb, hB⟩
    · rw [if_neg hj] at hk
      rw [if_neg hj]
      obtain ⟨a1, a2, a3⟩ := h.each j k hk
      exact ⟨a1, a2.far (p := ⟨g, i, none⟩) (Held.ne_ a2 h.row (by decide)) _, a3⟩
  · unfold put at hj hk
    by_cases c1 : j = i
    · by_cases c2 : k = i
      · omega
      · rw [if_neg c2] at hk
        simp only [if_pos c1, if_neg c2] at e
        exact absurd e.symm (hnew k hk)
    · rw [if_neg c1] at hj
      by_cases c2 : k = i
      · simp only [if_neg c1, if_pos c2] at e
        exact absurd e (hnew j hj)
      · rw [if_neg c2] at hk
        simp only [if_neg c1, if_neg c2] at e
        exact h.inj j k hj hk e
def TakeE (B : Nat) (w : World) (p n : Nat) (f : Nat → Option KB) (e : Ending) (w' : World) : Prop :=
  (∃ i, Least n f i ∧ e = .returned (.tuple #[.int .i64 ((i : Int) + 1), .int .i64 0]) ∧ MemAt B w' p n (put f i (some zeroKB)) ∧ Kp B w w') ∨
  ((∀ j, j < n → f j ≠ none) ∧ e = .returned (.tuple #[.int .i64 0, .int .i64 12]) ∧ w = w')
set_option maxRecDepth 100000 in
set_option maxHeartbeats 1600000 in
theorem take_any (B : Nat) (w : World) (p n : Nat) (f : Nat → Option KB) (hB : B ≤ w.heap.size) (h : MemAt B w p n f) :
    Calls Try.prog 97 #[.pointer (some ⟨p, 0, none⟩)] w fun e w' => TakeE B w p n f e w' := by
  obtain ⟨g, ad, h⟩ := h
  have H := Lib.hid h
  have IX := Lib.hid (index_any B w p g n ad f h)
  have hn := h.small
  have c0 : w.cell? ⟨p, 0, none⟩ = some (.slice (some ⟨g, 0, none⟩) n n) := h.blk.cell 0
  clear h
  go_enter Try.func97, Try.ntmps97
  go_wp2_with fail
  refine IX.out.mono ?_
  rintro e w' ⟨⟨i, hl, rfl⟩ | ⟨hl, rfl⟩, rfl⟩
  · have L := Lib.hid hl
    have hi := hl.1
    have c1 := H.out.ptr i hi
    unfold ptrC at c1
    rw [hl.2.1] at c1
    have z1 := H.out.row.frozen i
    obtain ⟨hz, hsz⟩ := zero_of_info zeroBlock
    have N : Hid (Below w.heap.size w (w.alloc (.cells (blkC zeroKB) 152))) := (Below.refl _ _).alloc (Nat.le_refl _) _
    have H2 := Lib.hid (H.out.under N.out)
    have c2 := H2.out.ptr i hi
    unfold ptrC at c2
    rw [hl.2.1] at c2
    have z2 := H2.out.row.frozen i
    have NB : Hid (Held (w.alloc (.cells (blkC zeroKB) 152)) w.heap.size 152 (blkC zeroKB)) := Held.new _ _ _ rfl
    clear hl IX
    go_wp2_with fail
    go_ret2
    refine .inl ⟨i, L.out, rfl, ⟨g, _, H2.out.taken i hi w.heap.size zeroKB NB.out (by simp [zeroKB]) (fun y hy => by have := List.eq_of_mem_replicate hy; omega) hB (fun j hj e => ?_)⟩, ?_⟩
    · obtain ⟨k, hk⟩ := Option.ne_none_iff_exists'.1 hj
      have := (H.out.each j k hk).2.1.lt
      omega
    · refine (Kp.under N.out).trans ⟨rfl, rfl, rfl, by simp [World.setCell], fun k hk hf => ?_⟩
      refine Below.heap_setCell _ _ _ _ (fun e => ?_)
      rcases hf with h | h
      · have := H.out.base.2
        subst e
        omega
      · subst e
        exact (h _ _ _ H2.out.row).1 rfl
  · have L := Lib.hid hl
    clear hl IX
    go_wp2_with fail
    go_ret2
    exact .inr ⟨L.out, rfl, rfl⟩
end Go.Proofs.Ytlofpbmceipkkaa
