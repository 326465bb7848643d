/-
  wal: blocks of bytes that are known whole (Buf); copy into them; the contracts of turnBeginning, frame, top.
-/
import Derived.Test.YtaoldopkehbhkaaWal5
namespace Go.Proofs.Ytaoldopkehbhkaa
open Go.RowKit Wal

/-- The bytes x laid over L from place o on. -/
def patch (L : List Nat) (o : Nat) (x : List Nat) : List Nat := L.take o ++ x ++ L.drop (o + x.length)
theorem patch_length {L x : List Nat} {o : Nat} (h : o + x.length ≤ L.length) : (patch L o x).length = L.length := by
  simp only [patch, List.length_append, List.length_take, List.length_drop]
  omega
theorem patch_bytes {L x : List Nat} {o : Nat} (hL : ∀ y ∈ L, y < 256) (hx : ∀ y ∈ x, y < 256) : ∀ y ∈ patch L o x, y < 256 := by
  intro y hy
  simp only [patch, List.mem_append] at hy
  rcases hy with (hy | hy) | hy
  · exact hL y (List.mem_of_mem_take hy)
  · exact hx y hy
  · exact hL y (List.mem_of_mem_drop hy)

/-- Block g is just the bytes L. -/
structure Buf (w : World) (g : Nat) (L : List Nat) : Prop where
  held : Held w g 5 (L.map u8v).toArray
  bytes : ∀ x ∈ L, x < 256

section
variable {w w' : World} {g off n c : Nat} {L l : List Nat}
theorem Buf.lt (h : Buf w g L) : g < w.heap.size := h.held.lt
theorem Buf.only {F : List Nat} (h : Buf w g L) (k : Only F w w') (hg : g ∉ F) : Buf w' g L := ⟨h.held.only k hg, h.bytes⟩
theorem Buf.below {B : Nat} (h : Buf w g L) (k : Below B w w') (hg : g < B) : Buf w' g L := ⟨h.held.below k hg, h.bytes⟩
theorem Buf.alloc (h : Buf w g L) (o : Obj) : Buf (w.alloc o) g L := ⟨h.held.alloc o, h.bytes⟩
theorem Buf.drew (h : Buf w g L) : Buf w.drew g L := ⟨h.held, h.bytes⟩
theorem Buf.cell (h : Buf w g L) (i : Nat) (hi : i < L.length) : w.cell? ⟨g, i, none⟩ = some (u8v (L.getD i 0)) := by
  rw [h.held.cell i, List.getElem?_toArray, List.getElem?_map, List.getElem?_eq_getElem hi, List.getD_eq_getElem?_getD, List.getElem?_eq_getElem hi]
  rfl
theorem Buf.bts (h : Buf w g L) (ho : off + n ≤ L.length) : Bts w (some ⟨g, off, none⟩) n ((L.drop off).take n) := by
  refine ⟨by rw [List.length_take, List.length_drop]; omega, fun x hx => h.bytes x (List.mem_of_mem_drop (List.mem_of_mem_take hx)), fun _ => ⟨g, off, rfl, h.lt, fun i hi => ?_⟩⟩
  rw [h.cell _ (by omega)]
  have e : ((L.drop off).take n).getD i 0 = L.getD (off + i) 0 := by
    simp only [List.getD_eq_getElem?_getD, List.getElem?_take, if_pos hi, List.getElem?_drop]
  rw [e]
  rfl
/-- A row of the call's own whose capacity is its length. -/
theorem Buf.of_own {base : Nat} {l : List Nat} (h : OwnB w base 5 (.slice (some ⟨g, 0, none⟩) n n) l) (hl : l.length = n) : Buf w g l := by
  subst hl
  refine ⟨?_, h.2⟩
  rcases h.1.2 with ⟨h0, _⟩ | ⟨g', cap, cur, hv, _, hg, h1, h2, h3, h4⟩
  · cases h0
  · injection hv with hv _ hv3
    injection hv with hv
    injection hv with hv1 _ _
    subst hv1 hv3
    have e : cur = (l.map u8v).toArray := by
      rw [← h4, List.take_of_length_le (by rw [Array.length_toList, h3]; omega), Array.toArray_toList]
    rw [← e]
    exact hg
theorem Buf.row (h : Buf w g L) (ho : off + n ≤ L.length) (hn : n ≤ c) (hc : off + c ≤ L.length) (hm : L.length ≤ maxLen) : BRow w (.slice (some ⟨g, off, none⟩) n c) ((L.drop off).take n) := by
  have hl : ((L.drop off).take n).length = n := by rw [List.length_take, List.length_drop]; omega
  refine ⟨⟨by rw [List.length_map, Nat.mul_one], .inr ⟨g, off, c, _, (0, 0), by rw [hl], h.held, .inl rfl, by rw [hl]; exact hn, by omega, by simp; omega, ?_⟩⟩, fun x hx => h.bytes x (List.mem_of_mem_drop (List.mem_of_mem_take hx))⟩
  rw [hl, Nat.mul_one, ← List.map_drop, ← List.map_take]

/-- Bytes written into it. -/
theorem Buf.patched (h : Buf w g L) (x : List Nat) (o : Nat) (ho : o + x.length ≤ L.length) (hx : ∀ y ∈ x, y < 256) : Buf (w.setCells g o (x.map u8v)) g (patch L o x) := by
  obtain ⟨cur, h1, h2, h3⟩ := heap_setCells g 5 (0, 0) (x.map u8v) o w _ h.held (by simpa using ho)
  refine ⟨?_, patch_bytes h.bytes hx⟩
  have e : cur = ((patch L o x).map u8v).toArray := by
    apply Array.toList_inj.1
    rw [h3]
    simp [patch, List.map_take, List.map_drop]
  rw [← e]
  exact h1
theorem run_copy_buf (h : Buf w g L) (ty : TypeId) (A : Option Addr) (m c' : Nat) (l : List Nat) (hb : Bts w A m l) (hm : m ≤ n) (ho : off + n ≤ L.length) :
    (Builtin.copy_ #[48, 48] ty #[.slice (some ⟨g, off, none⟩) n c, .slice A m c']).run Try.prog w = .ok (goInt m) (w.setCells g off (l.map u8v)) := by
  obtain ⟨i, hi, _, hi1, _⟩ := info_parts info5
  have hs : (Try.prog.info? 5).map (·.size) = some 1 := by rw [hi]; simp [hi1]
  rcases Nat.eq_zero_or_pos m with h0 | h0
  · subst h0
    have hl : l = [] := List.eq_nil_of_length_eq_zero hb.1
    subst hl
    exact run_copy_none (P := Try.prog) w 48 48 ty 5 _ A n c 0 c' Try.underlying48 hs (by simp)
  · obtain ⟨b, o, rfl, _, hc⟩ := hb.2.2 h0
    have hlen : (l.map u8v).length = m := by rw [List.length_map, hb.1]
    have := run_copy_cells (P := Try.prog) w 48 48 ty 5 g off n c ⟨b, o, none⟩ m c' (l.map u8v) Try.underlying48 hs (by rw [hlen]; exact (Nat.min_eq_left hm).symm)
      (fun j v hv => hb.at_ rfl j v hv) (fun j hj => by rw [h.cell _ (by omega)]; rfl) (fun j _ => h.held.frozen _) (fun v hv => by obtain ⟨x, _, rfl⟩ := List.mem_map.1 hv; rfl)
    rw [hlen] at this
    exact this
theorem setCells_only (w : World) (g o : Nat) (vs : List Value) : Only [g] w (w.setCells g o vs) :=
  (Only.refl [g] w).grown (setCells_grown g vs o w) (fun k hk => .inl (by injection hk with hk; simp [hk]))
theorem wpList_copy_buf {ops : Array Oper} {rest : List Oper} {o : Oper} {a : Act} {Q : Exit → Act → World → Prop} (hgd : o.guard = none) (d s : Operand)
    (hop : o.op = .call { callee := .builtin .copy, args := #[d, s], argTypes := #[48, 48] }) (h : Buf w g L) (A : Option Addr) (m c' : Nat) (l : List Nat) (hd : a.eval d = .slice (some ⟨g, off, none⟩) n c) (hs : a.eval s = .slice A m c') (hb : Bts w A m l) (hm : m ≤ n) (ho : off + n ≤ L.length)
    (hk : ∀ w', Buf w' g (patch L off l) → Only [g] w w' → wpList Try.prog ops Q rest (a.put o.dst (goInt m)) w') : wpList Try.prog ops Q (o :: rest) a w := by
  have hr := run_copy_buf (n := n) (c := c) h o.type A m c' l hb hm ho
  refine wpList_plain hgd fun _ hK => ?_
  unfold Oper.wp execOp
  simp only [hop, resolve, invoke, builtin, Sem.run_bind, Sem.run_pure, Result.andThen_ok, List.map_toArray, List.map_cons, List.map_nil, hd, hs, hr]
  exact hK _ _ (hk _ (h.patched l off (by rw [hb.1]; omega) hb.2.1) (setCells_only w g off _))
end

namespace Wal
/-- The first two bytes of a sector, turned by a mask. -/
def turn (mask : Nat) (s : List Nat) : List Nat := num 2 (unnum (s.take 2) ^^^ mask) ++ s.drop 2
theorem turn_length (mask : Nat) {s : List Nat} (h : 2 ≤ s.length) : (turn mask s).length = s.length := by
  simp only [turn, List.length_append, num_length, List.length_drop]
  omega
theorem turn_bytes (mask : Nat) {s : List Nat} (h : ∀ x ∈ s, x < 256) : ∀ x ∈ turn mask s, x < 256 := by
  intro x hx
  rcases List.mem_append.1 hx with hx | hx
  · exact num_bytes _ _ x hx
  · exact h x (List.mem_of_mem_drop hx)
theorem turn_turn {mask : Nat} {s : List Nat} (hl : 2 ≤ s.length) (hs : ∀ x ∈ s, x < 256) (hm : mask < 65536) : turn mask (turn mask s) = s := by
  have h1 : unnum (s.take 2) < 256 ^ 2 := by
    have := unnum_lt (s.take 2) (fun x hx => hs x (List.mem_of_mem_take hx))
    rwa [List.length_take, Nat.min_eq_left hl] at this
  have h2 : unnum (s.take 2) ^^^ mask < 2 ^ 16 := Nat.xor_lt_two_pow (by omega) hm
  unfold turn
  have e1 : (num 2 (unnum (s.take 2) ^^^ mask) ++ s.drop 2).take 2 = num 2 (unnum (s.take 2) ^^^ mask) := List.take_left' (num_length _ _)
  have e2 : (num 2 (unnum (s.take 2) ^^^ mask) ++ s.drop 2).drop 2 = s.drop 2 := List.drop_left' (num_length _ _)
  rw [e1, e2, unnum_num' (by omega), xor_xor]
  have e3 := num_unnum (s.take 2) (fun x hx => hs x (List.mem_of_mem_take hx))
  rw [List.length_take, Nat.min_eq_left hl] at e3
  rw [e3, List.take_append_drop]
theorem turn_zero {s : List Nat} (hl : 2 ≤ s.length) (hs : ∀ x ∈ s, x < 256) : turn 0 s = s := by
  unfold turn
  rw [Nat.xor_zero]
  have e3 := num_unnum (s.take 2) (fun x hx => hs x (List.mem_of_mem_take hx))
  rw [List.length_take, Nat.min_eq_left hl] at e3
  rw [e3, List.take_append_drop]
end Wal

end Go.Proofs.Ytaoldopkehbhkaa
