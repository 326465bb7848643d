/-
  wal: the contracts of appendNumber and readNumber. · wal: blocks of bytes that are known whole (Buf); copy into them; the contracts of turnBeginning, frame, top. · wal: the contracts of frame and top. · wal: the contract of packTold.
-/
import Derived.Test.YtkajneeihhobhaaGreatMWalA
import Derived.Test.YtkajneeihhobhaaGreatMMath
import Derived.Laws.ShiftsVarLaws
import Derived.Test.YtkajneeihhobhaaGreatMDisk
namespace Go.Proofs.YtkajneeihhobhaaGreat
open Go.RowKit Wal

/-- A slice of bytes that may be appended to. -/
def BRow (w : World) (v : Value) (l : List Nat) : Prop := SRow w 5 1 v l.length (l.map u8v) ∧ ∀ x ∈ l, x < 256

section
variable {w w' : World} {v : Value} {l : List Nat}
theorem BRow.nil (w : World) : BRow w (.slice none 0 0) [] := ⟨SRow.nil _ _ _, by simp⟩
theorem BRow.only {F : List Nat} (h : BRow w v l) (k : Only F w w') (hn : ∀ g, v.ownBlock = some g → g ∉ F) : BRow w' v l := ⟨h.1.only k hn, h.2⟩
theorem BRow.below (h : BRow w v l) (k : Below w.heap.size w w') : BRow w' v l := h.only (Only.of_below (F := []) k) (fun _ _ hx => by cases hx)
theorem BRow.of_own {base : Nat} (h : OwnB w base 5 v l) : BRow w v l := ⟨.of_own h.1, h.2⟩
theorem BRow.form (h : BRow w v l) : ∃ A c, v = .slice A l.length c ∧ Bts w A l.length l := by
  obtain ⟨A, c, rfl⟩ := h.1.form
  refine ⟨A, c, rfl, rfl, h.2, fun hn => ?_⟩
  obtain ⟨g, off, e, hl, hc⟩ := h.1.at_ rfl hn
  refine ⟨g, off, e, hl, fun i hi => hc i _ ?_⟩
  rw [List.getElem?_map, List.getElem?_eq_getElem hi, List.getD_eq_getElem?_getD, List.getElem?_eq_getElem hi]
  rfl
theorem BRow.lt (h : BRow w v l) : ∀ g, v.ownBlock = some g → g < w.heap.size := h.1.lt
end

/-- One byte more. -/
theorem run_append_byte (w : World) (ty : TypeId) (v : Value) (l : List Nat) (h : BRow w v l) (x : Nat) (hx : x < 256) (g c : Nat) (hc : w.cell? ⟨g, 0, none⟩ = some (.int .u8 (x : Int))) (hl : l.length ≤ 4000000000) :
    ∃ v' w', (Builtin.append_ #[56, 56] ty #[v, .slice (some ⟨g, 0, none⟩) 1 c]).run Tryz.prog w = .ok v' w' ∧ BRow w' v' (l ++ [x]) ∧ w.grownBy w' v.ownBlock ∧ (∀ y, v'.ownBlock = some y → v.ownBlock = some y ∨ w.heap.size ≤ y) := by
  obtain ⟨i, hi, hz, hsize, hby⟩ := info_parts info5
  obtain ⟨v', w', h1, h2, h3, h4⟩ := run_append_srow (P := Tryz.prog) w 56 ty 5 i (.int .u8 0) 1 1 Tryz.underlying56 hi hz hsize hby rfl (by omega) v l.length (l.map u8v) h.1 ⟨g, 0, none⟩ 1 c [u8v x] rfl
    (fun j u hu => by
      obtain rfl : j = 0 := by
        rcases j with _ | j
        · rfl
        · simp at hu
      have e : u8v x = u := by simpa using hu
      rw [← e]
      exact hc) (fun u hu => by
        have : u = u8v x := by simpa using hu
        rw [this]; rfl) (by simp only [maxLen]; omega) (by omega)
  refine ⟨v', w', h1, ⟨?_, fun y hy => ?_⟩, h3, h4⟩
  · rw [List.length_append, List.map_append]
    exact h2
  · rcases List.mem_append.1 hy with hy | hy
    · exact h.2 y hy
    · have : y = x := by simpa using hy
      omega
theorem wpList_append_byte {ops : Array Oper} {rest : List Oper} {o : Oper} {a : Act} {w : World} {Q : Exit → Act → World → Prop} (hgd : o.guard = none) (s x : Operand)
    (ho : o.op = .call { callee := .builtin .append, args := #[s, x], argTypes := #[56, 56] }) (v : Value) (l : List Nat) (hs : a.eval s = v) (hr : BRow w v l) (g c : Nat) (b : Nat) (hx : a.eval x = .slice (some ⟨g, 0, none⟩) 1 c) (hb : b < 256)
    (hc : w.cell? ⟨g, 0, none⟩ = some (.int .u8 (b : Int))) (hl : l.length ≤ 4000000000)
    (h : ∀ v' w', BRow w' v' (l ++ [b]) → w.grownBy w' v.ownBlock → (∀ y, v'.ownBlock = some y → v.ownBlock = some y ∨ w.heap.size ≤ y) → wpList Tryz.prog ops Q rest (a.put o.dst v') w') : wpList Tryz.prog ops Q (o :: rest) a w := by
  obtain ⟨v', w', h1, h2, h3, h4⟩ := run_append_byte w o.type v l hr b hb g c hc hl
  refine wpList_plain hgd fun _ hK => ?_
  unfold Oper.wp execOp
  simp only [ho, resolve, invoke, builtin, Sem.run_bind, Sem.run_pure, Result.andThen_ok, List.map_toArray, List.map_cons, List.map_nil, hs, hx, h1]
  exact hK _ _ (h v' w' h2 h3 h4)

/-- What appendNumber leaves: the bytes behind those of v, in v's block or a new one. -/
def Appended (w : World) (v : Value) (l : List Nat) (e : Ending) (w' : World) : Prop :=
  ∃ v', e = .returned v' ∧ BRow w' v' l ∧ Only v.ownBlock.toList w w' ∧ ∀ y, v'.ownBlock = some y → v.ownBlock = some y ∨ w.heap.size ≤ y

set_option maxRecDepth 100000 in
set_option maxHeartbeats 400000 in
theorem appendNumber_any (w : World) (v : Value) (l : List Nat) (x k : Nat) (h : BRow w v l) (hx : x < 18446744073709551616) (hk : k ≤ 8) (hl : l.length ≤ 3000000000) :
    Calls Tryz.prog 93 #[v, .int .u64 (x : Int), .int .i64 (k : Int)] w (Appended w v (l ++ num k x)) := by
  obtain ⟨A, c, rfl, _⟩ := h.form
  have H := Lib.hid h
  have HX := Lib.hid hx
  clear h hx
  go_enter Tryz.func93, Tryz.ntmps93
  go_wp2
  go_loopw [0, 1, 8] (fun b y i wr => ∃ j : Nat, j ≤ k ∧ i = .int .i64 j ∧ y = .int .u64 (x / 256 ^ j : Nat) ∧ BRow wr b (l ++ num j x) ∧ Only (Value.slice A l.length c).ownBlock.toList w wr ∧ ∀ z, b.ownBlock = some z → (Value.slice A l.length c).ownBlock = some z ∨ w.heap.size ≤ z) (fun _ _ i _ => k - (intOf i).toNat)
  case atStart => exact ⟨0, by omega, rfl, by simp, by simpa [num] using H.out, Only.refl _ _, fun _ h => .inl h⟩
  case round =>
    obtain ⟨j, hj, rfl, rfl, hr, ho, hw⟩ := hrel
    obtain ⟨A', c', rfl, _⟩ := hr.form
    have R := Lib.hid hr
    have O := Lib.hid ho
    have W := Lib.hid hw
    clear hr ho hw
    by_cases hlt : j < k
    · have N := Lib.hid (num_snoc j x)
      have hd : x / 256 ^ (j + 1) = x / 256 ^ j / 256 := by rw [Nat.div_div_eq_div_mul, Nat.pow_succ]
      have HD := Lib.hid hd
      have hlen : Hid ((l ++ num j x).length ≤ 4000000000) := by show _ ≤ _; rw [List.length_append, num_length]; omega
      clear hd
      generalize hyy : x / 256 ^ j = y at *
      clear hyy
      have hm : IntKind.u8.wrap (y : Int) = ((y % 256 : Nat) : Int) := by rw [IntKind.wrap_u8']; omega
      have hb : y % 256 < 256 := by omega
      generalize hzz : y % 256 = z at *
      clear hzz
      go_wp2_with (refine wpList_append_byte rfl (o := ⟨some 14, _, _, _, _, _⟩) (.tmp 10) (.tmp 13) rfl _ _ rfl (R.out.below ((Below.refl _ _).alloc (Nat.le_refl _) _)) wr.heap.size 1 z rfl hb (by rw [World.cell?_alloc_new]; rfl) hlen.out ?_; intro v' w' q1 q2 q3)
      have Q2 := (Only.refl [] wr).alloc (.cells #[.int .u8 (z : Int)] 5)
      go_roundw
      case rel =>
        refine ⟨j + 1, by omega, by go_num, by rw [HD.out]; rfl, by rw [N.out, ← List.append_assoc]; exact q1, ?_, fun t ht => ?_⟩
        · refine (O.out.trans (G := []) Q2 (fun _ hx => by cases hx)).grown q2 (fun t ht => ?_)
          rcases W.out t ht with h | h
          · exact .inl (by simp [h])
          · exact .inr h
        · rcases q3 t ht with h | h
          · exact W.out t h
          · right
            have h1 := O.out.size
            have h2 := Q2.size
            omega
      case measure => simp [intOf]; omega
    · obtain rfl : j = k := by omega
      go_wp2
      go_ret
      exact ⟨_, rfl, R.out, O.out, W.out⟩

theorem unnum_take {l : List Nat} {k : Nat} (hk : k < l.length) : unnum (l.take (k + 1)) = unnum (l.take k) + l.getD k 0 * 256 ^ k := by
  rw [List.take_succ_eq_append_getElem hk, unnum_snoc, List.length_take, Nat.min_eq_left (by omega), List.getD_eq_getElem?_getD, List.getElem?_eq_getElem hk]
  rfl

set_option maxRecDepth 100000 in
set_option maxHeartbeats 400000 in
theorem readNumber_any (w : World) (A : Option Addr) (n c : Nat) (l : List Nat) (h : Bts w A n l) (hn : n ≤ 8) :
    Calls Tryz.prog 89 #[.slice A n c] w fun e w' => e = .returned (.int .u64 (unnum l : Nat)) ∧ w = w' := by
  obtain ⟨hl, h8, hb⟩ := h
  have HL := Lib.hid hl
  clear hl
  go_enter Tryz.func89, Tryz.ntmps89
  go_wp2
  go_loop [3, 8] (fun x i => ∃ k : Nat, k ≤ n ∧ i = .int .i64 k ∧ x = .int .u64 (unnum (l.take k) : Nat)) (fun _ i => n - (intOf i).toNat)
  case atStart => exact ⟨0, by omega, rfl, rfl⟩
  case round =>
    obtain ⟨k, hk, rfl, rfl⟩ := hrel
    by_cases hlt : k < n
    · obtain ⟨b, off, rfl, _, hcell⟩ := hb (by omega)
      have hc := hcell k hlt
      have hkl : k < l.length := by rw [HL.out]; exact hlt
      have h256 : l.getD k 0 < 256 := by
        rw [List.getD_eq_getElem?_getD, List.getElem?_eq_getElem hkl]
        exact h8 _ (List.getElem_mem hkl)
      have HS := Lib.hid (unnum_take hkl)
      have hlt2 : unnum (l.take k) < 256 ^ k := by
        have := unnum_lt (l.take k) (fun x hx => h8 x (List.mem_of_mem_take hx))
        rwa [List.length_take, Nat.min_eq_left (by omega)] at this
      have hor := or_step (c := l.getD k 0) hlt2
      have hp8 := pow8 k (by omega) _ h256
      have hx64 : unnum (l.take k) < 18446744073709551616 := by
        have := Nat.pow_le_pow_right (show 0 < 256 by omega) (show k ≤ 8 by omega)
        have e : 256 ^ 8 = 18446744073709551616 := by decide
        omega
      clear hcell hb h8
      generalize unnum (l.take k) = x at *
      generalize l.getD k 0 = y at *
      have hsh : IntKind.u64.wrap ((y : Int) * 2 ^ (8 * k)) = ((y * 256 ^ k : Nat) : Int) := by
        have e2 : (2 : Int) ^ (8 * k) = ((256 ^ k : Nat) : Int) := by rw [Int.pow_mul]; norm_cast
        rw [e2, IntKind.wrap_u64]
        have e3 : (y : Int) * ((256 ^ k : Nat) : Int) = ((y * 256 ^ k : Nat) : Int) := by push_cast; rfl
        rw [e3]
        omega
      have hbo : bits .or .u64 (x : Int) ((y * 256 ^ k : Nat) : Int) = ((x + y * 256 ^ k : Nat) : Int) := by
        rw [u64_or_nat _ _ hx64 hp8, hor]
      have HV : Hid (bits .or .u64 (x : Int) (IntKind.u64.wrap ((y : Int) * 2 ^ (8 * k))) = ((x + y * 256 ^ k : Nat) : Int)) := by show _ = _; rw [hsh, hbo]
      clear hor hlt2 hx64 hp8 hsh hbo
      generalize y * 256 ^ k = z at *
      go_wp2
      go_round
      case rel => exact ⟨k + 1, by omega, by go_num, by rw [HS.out]; exact congrArg (Value.int .u64) HV.out⟩
      case measure => simp [intOf]; omega
    · obtain rfl : k = n := by omega
      go_wp2
      go_ret
      have e : l.take k = l := List.take_of_length_le (by rw [HL.out]; exact Nat.le_refl _)
      exact ⟨by rw [← congrArg unnum e]; rfl, rfl⟩
end Go.Proofs.YtkajneeihhobhaaGreat

namespace Go.Proofs.YtkajneeihhobhaaGreat
open Go.RowKit Wal

/-- The bytes x laid over L from place o on. -/
def patch (L : List Nat) (o : Nat) (x : List Nat) : List Nat := L.take o ++ x ++ L.drop (o + x.length)
theorem patch_length {L x : List Nat} {o : Nat} (h : o + x.length ≤ L.length) : (patch L o x).length = L.length := by
  simp only [patch, List.length_append, List.length_take, List.length_drop]
  omega
theorem patch_bytes {L x : List Nat} {o : Nat} (hL : ∀ y ∈ L, y < 256) (hx : ∀ y ∈ x, y < 256) : ∀ y ∈ patch L o x, y < 256 := by
  intro y hy
  simp only [patch, List.mem_append] at hy
  rcases hy with (hy | hy) | hy
  · exact hL y (List.mem_of_mem_take hy)
  · exact hx y hy
  · exact hL y (List.mem_of_mem_drop hy)

/-- Block g is just the bytes L. -/
structure Buf (w : World) (g : Nat) (L : List Nat) : Prop where
  held : Held w g 5 (L.map u8v).toArray
  bytes : ∀ x ∈ L, x < 256

section
variable {w w' : World} {g off n c : Nat} {L l : List Nat}
theorem Buf.lt (h : Buf w g L) : g < w.heap.size := h.held.lt
theorem Buf.only {F : List Nat} (h : Buf w g L) (k : Only F w w') (hg : g ∉ F) : Buf w' g L := ⟨h.held.only k hg, h.bytes⟩
theorem Buf.below {B : Nat} (h : Buf w g L) (k : Below B w w') (hg : g < B) : Buf w' g L := ⟨h.held.below k hg, h.bytes⟩
theorem Buf.alloc (h : Buf w g L) (o : Obj) : Buf (w.alloc o) g L := ⟨h.held.alloc o, h.bytes⟩
theorem Buf.drew (h : Buf w g L) : Buf w.drew g L := ⟨h.held, h.bytes⟩
theorem Buf.cell (h : Buf w g L) (i : Nat) (hi : i < L.length) : w.cell? ⟨g, i, none⟩ = some (u8v (L.getD i 0)) := by
  rw [h.held.cell i, List.getElem?_toArray, List.getElem?_map, List.getElem?_eq_getElem hi, List.getD_eq_getElem?_getD, List.getElem?_eq_getElem hi]
  rfl
theorem Buf.bts (h : Buf w g L) (ho : off + n ≤ L.length) : Bts w (some ⟨g, off, none⟩) n ((L.drop off).take n) := by
  refine ⟨by rw [List.length_take, List.length_drop]; omega, fun x hx => h.bytes x (List.mem_of_mem_drop (List.mem_of_mem_take hx)), fun _ => ⟨g, off, rfl, h.lt, fun i hi => ?_⟩⟩
  rw [h.cell _ (by omega)]
  have e : ((L.drop off).take n).getD i 0 = L.getD (off + i) 0 := by
    simp only [List.getD_eq_getElem?_getD, List.getElem?_take, if_pos hi, List.getElem?_drop]
  rw [e]
  rfl
/-- A row of the call's own whose capacity is its length. -/
theorem Buf.of_own {base : Nat} {l : List Nat} (h : OwnB w base 5 (.slice (some ⟨g, 0, none⟩) n n) l) (hl : l.length = n) : Buf w g l := by
  subst hl
  refine ⟨?_, h.2⟩
  rcases h.1.2 with ⟨h0, _⟩ | ⟨g', cap, cur, hv, _, hg, h1, h2, h3, h4⟩
  · cases h0
  · injection hv with hv _ hv3
    injection hv with hv
    injection hv with hv1 _ _
    subst hv1 hv3
    have e : cur = (l.map u8v).toArray := by
      rw [← h4, List.take_of_length_le (by rw [Array.length_toList, h3]; omega), Array.toArray_toList]
    rw [← e]
    exact hg
theorem Buf.row (h : Buf w g L) (ho : off + n ≤ L.length) (hn : n ≤ c) (hc : off + c ≤ L.length) (hm : L.length ≤ maxLen) : BRow w (.slice (some ⟨g, off, none⟩) n c) ((L.drop off).take n) := by
  have hl : ((L.drop off).take n).length = n := by rw [List.length_take, List.length_drop]; omega
  refine ⟨⟨by rw [List.length_map, Nat.mul_one], .inr ⟨g, off, c, _, (0, 0), by rw [hl], h.held, .inl rfl, by rw [hl]; exact hn, by omega, by simp; omega, ?_⟩⟩, fun x hx => h.bytes x (List.mem_of_mem_drop (List.mem_of_mem_take hx))⟩
  rw [hl, Nat.mul_one, ← List.map_drop, ← List.map_take]

/-- Bytes written into it. -/
theorem Buf.patched (h : Buf w g L) (x : List Nat) (o : Nat) (ho : o + x.length ≤ L.length) (hx : ∀ y ∈ x, y < 256) : Buf (w.setCells g o (x.map u8v)) g (patch L o x) := by
  obtain ⟨cur, h1, h2, h3⟩ := heap_setCells g 5 (0, 0) (x.map u8v) o w _ h.held (by simpa using ho)
  refine ⟨?_, patch_bytes h.bytes hx⟩
  have e : cur = ((patch L o x).map u8v).toArray := by
    apply Array.toList_inj.1
    rw [h3]
    simp [patch, List.map_take, List.map_drop]
  rw [← e]
  exact h1
theorem run_copy_buf (h : Buf w g L) (ty : TypeId) (A : Option Addr) (m c' : Nat) (l : List Nat) (hb : Bts w A m l) (hm : m ≤ n) (ho : off + n ≤ L.length) :
    (Builtin.copy_ #[56, 56] ty #[.slice (some ⟨g, off, none⟩) n c, .slice A m c']).run Tryz.prog w = .ok (goInt m) (w.setCells g off (l.map u8v)) := by
  obtain ⟨i, hi, _, hi1, _⟩ := info_parts info5
  have hs : (Tryz.prog.info? 5).map (·.size) = some 1 := by rw [hi]; simp [hi1]
  rcases Nat.eq_zero_or_pos m with h0 | h0
  · subst h0
    have hl : l = [] := List.eq_nil_of_length_eq_zero hb.1
    subst hl
    exact run_copy_none (P := Tryz.prog) w 56 56 ty 5 _ A n c 0 c' Tryz.underlying56 hs (by simp)
  · obtain ⟨b, o, rfl, _, hc⟩ := hb.2.2 h0
    have hlen : (l.map u8v).length = m := by rw [List.length_map, hb.1]
    have := run_copy_cells (P := Tryz.prog) w 56 56 ty 5 g off n c ⟨b, o, none⟩ m c' (l.map u8v) Tryz.underlying56 hs (by rw [hlen]; exact (Nat.min_eq_left hm).symm)
      (fun j v hv => hb.at_ rfl j v hv) (fun j hj => by rw [h.cell _ (by omega)]; rfl) (fun j _ => h.held.frozen _) (fun v hv => by obtain ⟨x, _, rfl⟩ := List.mem_map.1 hv; rfl)
    rw [hlen] at this
    exact this
theorem setCells_only (w : World) (g o : Nat) (vs : List Value) : Only [g] w (w.setCells g o vs) :=
  (Only.refl [g] w).grown (setCells_grown g vs o w) (fun k hk => .inl (by injection hk with hk; simp [hk]))
theorem wpList_copy_buf {ops : Array Oper} {rest : List Oper} {o : Oper} {a : Act} {Q : Exit → Act → World → Prop} (hgd : o.guard = none) (d s : Operand)
    (hop : o.op = .call { callee := .builtin .copy, args := #[d, s], argTypes := #[56, 56] }) (h : Buf w g L) (A : Option Addr) (m c' : Nat) (l : List Nat) (hd : a.eval d = .slice (some ⟨g, off, none⟩) n c) (hs : a.eval s = .slice A m c') (hb : Bts w A m l) (hm : m ≤ n) (ho : off + n ≤ L.length)
    (hk : ∀ w', Buf w' g (patch L off l) → Only [g] w w' → wpList Tryz.prog ops Q rest (a.put o.dst (goInt m)) w') : wpList Tryz.prog ops Q (o :: rest) a w := by
  have hr := run_copy_buf (n := n) (c := c) h o.type A m c' l hb hm ho
  refine wpList_plain hgd fun _ hK => ?_
  unfold Oper.wp execOp
  simp only [hop, resolve, invoke, builtin, Sem.run_bind, Sem.run_pure, Result.andThen_ok, List.map_toArray, List.map_cons, List.map_nil, hd, hs, hr]
  exact hK _ _ (hk _ (h.patched l off (by rw [hb.1]; omega) hb.2.1) (setCells_only w g off _))
end

namespace Wal
/-- The first two bytes of a sector, turned by a mask. -/
def turn (mask : Nat) (s : List Nat) : List Nat := num 2 (unnum (s.take 2) ^^^ mask) ++ s.drop 2
theorem turn_length (mask : Nat) {s : List Nat} (h : 2 ≤ s.length) : (turn mask s).length = s.length := by
  simp only [turn, List.length_append, num_length, List.length_drop]
  omega
theorem turn_bytes (mask : Nat) {s : List Nat} (h : ∀ x ∈ s, x < 256) : ∀ x ∈ turn mask s, x < 256 := by
  intro x hx
  rcases List.mem_append.1 hx with hx | hx
  · exact num_bytes _ _ x hx
  · exact h x (List.mem_of_mem_drop hx)
theorem turn_turn {mask : Nat} {s : List Nat} (hl : 2 ≤ s.length) (hs : ∀ x ∈ s, x < 256) (hm : mask < 65536) : turn mask (turn mask s) = s := by
  have h1 : unnum (s.take 2) < 256 ^ 2 := by
    have := unnum_lt (s.take 2) (fun x hx => hs x (List.mem_of_mem_take hx))
    rwa [List.length_take, Nat.min_eq_left hl] at this
  have h2 : unnum (s.take 2) ^^^ mask < 2 ^ 16 := Nat.xor_lt_two_pow (by omega) hm
  unfold turn
  have e1 : (num 2 (unnum (s.take 2) ^^^ mask) ++ s.drop 2).take 2 = num 2 (unnum (s.take 2) ^^^ mask) := List.take_left' (num_length _ _)
  have e2 : (num 2 (unnum (s.take 2) ^^^ mask) ++ s.drop 2).drop 2 = s.drop 2 := List.drop_left' (num_length _ _)
  rw [e1, e2, unnum_num' (by omega), xor_xor]
  have e3 := num_unnum (s.take 2) (fun x hx => hs x (List.mem_of_mem_take hx))
  rw [List.length_take, Nat.min_eq_left hl] at e3
  rw [e3, List.take_append_drop]
theorem turn_zero {s : List Nat} (hl : 2 ≤ s.length) (hs : ∀ x ∈ s, x < 256) : turn 0 s = s := by
  unfold turn
  rw [Nat.xor_zero]
  have e3 := num_unnum (s.take 2) (fun x hx => hs x (List.mem_of_mem_take hx))
  rw [List.length_take, Nat.min_eq_left hl] at e3
  rw [e3, List.take_append_drop]
end Wal

set_option maxRecDepth 100000 in
set_option maxHeartbeats 400000 in
theorem turnBeginning_any (w : World) (g off n c : Nat) (L : List Nat) (mask : Nat) (h : Buf w g L) (hn : 2 ≤ n) (hnc : n ≤ c) (ho : off + n ≤ L.length) (hm : mask < 18446744073709551616) :
    Calls Tryz.prog 102 #[.slice (some ⟨g, off, none⟩) n c, .int .u64 (mask : Int)] w fun e w' => e = .returned (.tuple #[]) ∧ Buf w' g (patch L off (num 2 (unnum ((L.drop off).take 2) ^^^ mask))) ∧ Only [g] w w' := by
  have H := Lib.hid h
  have B2 := Lib.hid (h.bts (off := off) (n := 2) (by omega))
  have hx : unnum ((L.drop off).take 2) < 65536 := by
    have := unnum_lt ((L.drop off).take 2) B2.out.2.1
    rwa [B2.out.1] at this
  have HX : Hid (bits .xor .u64 ((unnum ((L.drop off).take 2) : Nat) : Int) (mask : Int) = ((unnum ((L.drop off).take 2) ^^^ mask : Nat) : Int)) := u64_xor_nat _ _ (by omega) hm
  have HM : Hid (unnum ((L.drop off).take 2) ^^^ mask < 18446744073709551616) := by
    have := Nat.xor_lt_two_pow (n := 64) (show unnum ((L.drop off).take 2) < 2 ^ 64 by omega) (show mask < 2 ^ 64 by omega)
    exact this
  have HO := Lib.hid ho
  clear h hx hm ho
  go_enter Tryz.func102, Tryz.ntmps102
  go_wp2_with fail
  refine (readNumber_any _ _ 2 c _ B2.out (by omega)).mono ?_
  rintro e w' ⟨rfl, rfl⟩
  obtain ⟨x, hxe⟩ : ∃ x, x = unnum ((L.drop off).take 2) := ⟨_, rfl⟩
  have EX := Lib.hid hxe
  rw [← hxe] at HX HM ⊢
  clear hxe
  go_wp2_with fail
  rw [HX.out]
  refine (appendNumber_any _ (.slice none 0 0) [] (x ^^^ mask) 2 (BRow.nil _) HM.out (by omega) (by simp)).mono ?_
  rintro e w1 ⟨v', rfl, hr, hO, hat⟩
  obtain ⟨A, c1, rfl, hb⟩ := hr.form
  have hlen : ([] ++ num 2 (x ^^^ mask)).length = 2 := by simp [num_length]
  rw [hlen] at hb ⊢
  rw [List.nil_append] at hb
  have HB := Lib.hid hb
  have O1 := Lib.hid hO.below_nil
  clear hb hO hat hr hlen
  have H1 := Lib.hid (H.out.below O1.out H.out.lt)
  go_wp2_with (refine wpList_copy_buf rfl (o := ⟨some 13, _, _, _, _, _⟩) (.tmp 10) (.tmp 12) rfl H1.out _ 2 _ _ rfl rfl HB.out hn HO.out ?_; intro w2 q1 q2)
  go_end0
  refine ⟨rfl, ?_, (Only.of_below O1.out).trans q2 (fun _ hx => .inl hx)⟩
  rw [← EX.out]
  exact q1
end Go.Proofs.YtkajneeihhobhaaGreat

namespace Go.Proofs.YtkajneeihhobhaaGreat
open Go.RowKit Wal

namespace Wal
def frame (r : List Nat) : Nat := Crc.sum r / 1024 * 1024 + r.length
theorem frame_mod {r : List Nat} (h : r.length ≤ 600) : frame r % 1024 = r.length := by unfold frame; omega
theorem frame_lt {r : List Nat} (h : r.length ≤ 600) (hb : ∀ x ∈ r, x < 256) : frame r < 4294967296 := by
  have := Crc.sum_lt hb
  unfold frame
  omega
/-- The first twelve bytes of a batch; its first sixteen. -/
def top12 (count mask number : Nat) : List Nat := num 2 count ++ num 2 mask ++ num 8 number
def top (count mask number : Nat) : List Nat := top12 count mask number ++ num 4 (Crc.sum (top12 count mask number))
theorem top12_length (a b c : Nat) : (top12 a b c).length = 12 := by simp [top12, num_length]
theorem top_length (a b c : Nat) : (top a b c).length = 16 := by simp [top, top12_length, num_length]
theorem top12_bytes (a b c : Nat) : ∀ x ∈ top12 a b c, x < 256 := by
  intro x hx
  simp only [top12, List.mem_append] at hx
  rcases hx with (hx | hx) | hx <;> exact num_bytes _ _ x hx
theorem top_bytes (a b c : Nat) : ∀ x ∈ top a b c, x < 256 := by
  intro x hx
  rcases List.mem_append.1 hx with hx | hx
  · exact top12_bytes _ _ _ x hx
  · exact num_bytes _ _ x hx
end Wal
theorem frame_bits {q n : Nat} (hq : q < 4294967296) (hn : n ≤ 600) : bits .or .u32 (bits .andNot .u32 (q : Int) 1023) (n : Int) = ((q / 1024 * 1024 + n : Nat) : Int) := by
  have h1 := u32_andNot_nat q 1023 hq (by decide)
  have e : q &&& (4294967295 - 1023) = q / 1024 * 1024 := by
    have h2 := nat_mask10 q
    have h3 : q &&& 4294967295 = q := by
      have := Nat.and_two_pow_sub_one_eq_mod q 32
      have e : (2 : Nat) ^ 32 - 1 = 4294967295 := by decide
      rw [e] at this
      rw [this, Nat.mod_eq_of_lt (by omega)]
    have h4 : (q &&& (4294967295 - 1023)) ||| (q &&& 1023) = q := by
      rw [← Nat.and_or_distrib_left]
      exact h3
    have h5 : (q &&& (4294967295 - 1023)) % 2 ^ 10 = 0 := by
      rw [← Nat.and_two_pow_sub_one_eq_mod, Nat.and_assoc]
      simp
    rw [nat_join 10 _ _ h5 (by rw [h2]; omega), h2] at h4
    omega
  have h1' : bits .andNot .u32 (q : Int) 1023 = ((q / 1024 * 1024 : Nat) : Int) := by rw [← e]; exact h1
  rw [h1', u32_or_nat _ _ (by omega) (by omega), nat_join 10 _ _ (by omega) (by omega)]

/-- A call that asks sums alone: the log and its disk are as they were. -/
def LKept (w : World) (b : Nat) (G : List Nat) (s : LS) (d : Nat) (F : List Nat) (m : Dsk.DM) (w' : World) : Prop := LD w' b G s d F m ∧ Only [b] w w'
section
variable {w w1 w' : World} {b d : Nat} {s : LS} {G F : List Nat} {m : Dsk.DM}
theorem LKept.refl (h : LD w b G s d F m) : LKept w b G s d F m w := ⟨h, Only.refl _ _⟩
theorem LKept.trans (h : LKept w b G s d F m w1) (k : LKept w1 b G s d F m w') : LKept w b G s d F m w' := ⟨k.1, h.2.trans k.2 (fun _ hx => .inl hx)⟩
theorem LKept.under (h : LKept w b G s d F m w1) (k : Below w1.heap.size w1 w') : LKept w b G s d F m w' := ⟨h.1.under k, h.2.under k⟩
theorem LKept.turned (h : LKept w b G s d F m w1) (hb : b ∈ G) : LTurned w b G d F w1 s m := ⟨G, F, h.1, h.2.mono (fun x hx => .inl (by
  obtain rfl : x = b := by simpa using hx
  exact List.mem_append.2 (.inl hb))), Grown.refl _ _, Grown.refl _ _⟩
theorem LD.fit (h : LD w b G s d F m) : Fit w b := by
  obtain ⟨vn, hl, _⟩ := h.log
  exact hl.tab
theorem LD.summed (h : LD w b G s d F m) (k : TabOnly b w w') (ht : Fit w' b) : LKept w b G s d F m w' := by
  have hbF := h.apart b h.mem
  obtain ⟨vn, hl, hG⟩ := h.log
  exact ⟨⟨⟨vn, hl.summed k ht, hG⟩, h.disk.only k.only (fun x hx e => by
    obtain rfl : x = b := by simpa using e
    exact hbF hx), h.apart⟩, k.only⟩
end

set_option maxRecDepth 100000 in
set_option maxHeartbeats 400000 in
theorem frame_any (w : World) (b d : Nat) (s : LS) (G F : List Nat) (m : Dsk.DM) (r : ByteArray) (h : LD w b G s d F m) (hr : r.size ≤ 600) :
    Calls Tryz.prog 100 #[.pointer (some ⟨b, 0, none⟩), .string r] w fun e w' => e = .returned (.int .u32 (Wal.frame (nums r) : Nat)) ∧ LKept w b G s d F m w' := by
  have H := Lib.hid h
  have kc := fun u => Lib.run_convert_string_bytes (P := Tryz.prog) u 9 56 5 r Tryz.underlying9 Tryz.underlying56 Tryz.underlying5
  have hs2 : (r.size : Int) ≤ 600 := by omega
  have B1 := Lib.hid (below_bytesWorld (B := w.heap.size) w 5 r (Nat.le_refl _))
  have T1 := Lib.hid (bts_bytesWorld w 5 r rfl)
  have HR := Lib.hid hr
  have HN := Lib.hid (nums_length r)
  have HQ := Lib.hid (Crc.sum_lt (nums_lt r))
  clear h
  go_enter Tryz.func100, Tryz.ntmps100
  go_wp2_with fail
  have L1 := Lib.hid (H.out.under B1.out)
  refine (tab_sum b _ _ _ (nums r) _ (by omega) T1.out (fun _ x hx => by
    injection hx with hx
    subst hx
    have := H.out.blt
    show w.heap.size ≠ b
    omega) L1.out.fit).mono ?_
  rintro e w1 ⟨rfl, hf, ho⟩
  have K1 := Lib.hid ((LKept.under (LKept.refl H.out) B1.out).trans (L1.out.summed ho hf))
  clear hf ho kc
  have HV : Hid (bits .or .u32 (bits .andNot .u32 ((Crc.sum (nums r) : Nat) : Int) 1023) (r.size : Int) = ((Wal.frame (nums r) : Nat) : Int)) := by
    show _ = _
    unfold Wal.frame
    rw [HN.out]
    exact frame_bits HQ.out HR.out
  generalize Crc.sum (nums r) = q at *
  have hw : IntKind.u32.wrap (r.size : Int) = (r.size : Int) := by rw [IntKind.wrap_u32]; omega
  go_wp2_with fail
  go_ret
  exact ⟨by rw [← HV.out]; rfl, K1.out⟩

/-- A row of new bytes. -/
def NewRow (w : World) (v : Value) (l : List Nat) (w' : World) : Prop := BRow w' v l ∧ ∀ y, v.ownBlock = some y → w.heap.size ≤ y
/-- What packs numbers answers: new bytes; the log and its disk are as they were. -/
def Packed (w : World) (b : Nat) (G : List Nat) (s : LS) (d : Nat) (F : List Nat) (m : Dsk.DM) (l : List Nat) (e : Ending) (w' : World) : Prop :=
  ∃ v, e = .returned v ∧ NewRow w v l w' ∧ LKept w b G s d F m w'
theorem Appended.new {w w1 w' : World} {v : Value} {l l0 : List Nat} {e : Ending} (h : NewRow w v l0 w1) (hb : Below w.heap.size w w1) (k : Appended w1 v l e w') : ∃ v', e = .returned v' ∧ NewRow w v' l w' ∧ Below w.heap.size w w' := by
  obtain ⟨v', h1, h2, h3, h4⟩ := k
  refine ⟨v', h1, ⟨h2, fun y hy => ?_⟩, h3.from_ hb (fun x hx => h.2 x (by simpa using hx))⟩
  rcases h4 y hy with h5 | h5
  · exact h.2 y h5
  · have := hb.size; omega
theorem NewRow.nil (w w' : World) : NewRow w (.slice none 0 0) [] w' := ⟨BRow.nil _, fun _ h => by cases h⟩

set_option maxRecDepth 100000 in
set_option maxHeartbeats 400000 in
theorem top_any (w : World) (b d : Nat) (s : LS) (G F : List Nat) (m : Dsk.DM) (count mask number : Nat) (h : LD w b G s d F m) (h1 : count ≤ 1024) (h2 : mask < 18446744073709551616) (h3 : number ≤ 4611686018427387904) :
    Calls Tryz.prog 103 #[.pointer (some ⟨b, 0, none⟩), .int .i64 (count : Int), .int .u64 (mask : Int), .int .i64 (number : Int)] w (Packed w b G s d F m (Wal.top count mask number)) := by
  have H := Lib.hid h
  have HM := Lib.hid h2
  have w1 : IntKind.u64.wrap (count : Int) = (count : Int) := by rw [IntKind.wrap_u64]; omega
  have w2 : IntKind.u64.wrap (number : Int) = (number : Int) := by rw [IntKind.wrap_u64]; omega
  have HN : Hid (number < 18446744073709551616) := by show _ < _; omega
  have HC : Hid (count < 18446744073709551616) := by show _ < _; omega
  clear h h2 h3
  go_enter Tryz.func103, Tryz.ntmps103
  go_wp2_with fail
  refine (appendNumber_any _ (.slice none 0 0) [] count 2 (BRow.nil _) HC.out (by omega) (by simp)).mono ?_
  intro e wa hA
  obtain ⟨va, rfl, ra, ba⟩ := hA.new (NewRow.nil w w) (Below.refl _ _)
  have RA := Lib.hid ra
  have BA := Lib.hid ba
  obtain ⟨A1, c1, rfl, _⟩ := ra.1.form
  clear hA ra ba w1
  go_wp2_with fail
  refine (appendNumber_any _ _ _ mask 2 RA.out.1 HM.out (by omega) (by simp [num_length])).mono ?_
  intro e wb hA
  obtain ⟨vb, rfl, rb, bb⟩ := hA.new RA.out BA.out
  have RB := Lib.hid rb
  have BB := Lib.hid bb
  obtain ⟨A2, c2, rfl, _⟩ := rb.1.form
  clear hA rb bb RA BA
  go_wp2_with fail
  refine (appendNumber_any _ _ _ number 8 RB.out.1 HN.out (by omega) (by simp [num_length])).mono ?_
  intro e wc hA
  obtain ⟨vc, rfl, rc, bc⟩ := hA.new RB.out BB.out
  have e12 : [] ++ num 2 count ++ num 2 mask ++ num 8 number = top12 count mask number := rfl
  rw [e12] at rc
  have RC := Lib.hid rc
  have BC := Lib.hid bc
  obtain ⟨A3, c3, rfl, tc⟩ := rc.1.form
  have TC := Lib.hid tc
  clear hA rc bc RB BB w2 e12 tc
  rw [top12_length] at RC TC ⊢
  have LC := Lib.hid (H.out.under BC.out)
  go_wp2_with fail
  refine (tab_sum b _ 12 _ (top12 count mask number) _ (by omega) TC.out (fun _ x hx => by
    subst hx
    have h1 := RC.out.2 x.block rfl
    have h2 := H.out.blt
    omega) LC.out.fit).mono ?_
  rintro e wd ⟨rfl, hf, ho⟩
  have KD := Lib.hid ((LKept.under (LKept.refl H.out) BC.out).trans (LC.out.summed ho hf))
  have RD : Hid (BRow wd (.slice A3 12 c3) (top12 count mask number)) := RC.out.1.only ho.only (fun g hg e => by
    have h1 := RC.out.2 g hg
    have h2 := H.out.blt
    obtain rfl : g = b := by simpa using e
    omega)
  have HQ := Lib.hid (Crc.sum_lt (top12_bytes count mask number))
  have OD := Lib.hid ho.only.size
  clear hf ho
  generalize hq : Crc.sum (top12 count mask number) = q at *
  have EQ := Lib.hid hq
  have w3 : IntKind.u64.wrap (q : Int) = (q : Int) := by have := HQ.out; rw [IntKind.wrap_u64]; omega
  clear hq
  go_wp2_with fail
  refine (appendNumber_any _ _ _ q 4 RD.out (by have := HQ.out; omega) (by omega) (by rw [top12_length]; omega)).mono ?_
  rintro e we ⟨ve, rfl, re, oe, ae⟩
  have KE : Hid (LKept w b G s d F m we) := by
    refine ⟨KD.out.1.only oe (fun x hx e => ?_) (fun x hx e => ?_), KD.out.2.trans oe (fun x hx => .inr (RC.out.2 x (by simpa using hx)))⟩
    · have h1 := RC.out.2 x (by simpa using e)
      have h2 := H.out.glt x hx
      omega
    · have h1 := RC.out.2 x (by simpa using e)
      have h2 := H.out.flt x hx
      omega
  have RE := Lib.hid re
  have AE : Hid (∀ y, ve.ownBlock = some y → w.heap.size ≤ y) := fun y hy => by
    rcases ae y hy with h | h
    · exact RC.out.2 y h
    · have h1 := BC.out.size
      have h2 := OD.out
      omega
  obtain ⟨A4, c4, rfl, _⟩ := re.form
  clear re oe ae
  go_wp2_with fail
  go_ret
  refine ⟨_, rfl, ⟨?_, AE.out⟩, KE.out⟩
  unfold Wal.top
  rw [EQ.out]
  exact RE.out
end Go.Proofs.YtkajneeihhobhaaGreat

namespace Go.Proofs.YtkajneeihhobhaaGreat
open Go.RowKit Wal

namespace Wal
def sig : List Nat := [100, 111, 99, 107, 101, 116, 39, 115, 32, 108, 111, 103]
def nums8 (l : List Nat) : List Nat := l.flatMap (num 8)
theorem nums8_snoc (l : List Nat) (x : Nat) : nums8 (l ++ [x]) = nums8 l ++ num 8 x := by simp [nums8]
theorem nums8_length (l : List Nat) : (nums8 l).length = 8 * l.length := by
  induction l with
  | nil => rfl
  | cons x r ih => simp only [nums8, List.flatMap_cons, List.length_append, num_length, List.length_cons] at ih ⊢; omega
theorem nums8_bytes (l : List Nat) : ∀ x ∈ nums8 l, x < 256 := by
  intro x hx
  obtain ⟨y, _, hx⟩ := List.mem_flatMap.1 hx
  exact num_bytes _ _ x hx
/-- What the log's own sector holds, without its sum; with it. -/
def told52 (frm ring start first synced : Nat) : List Nat := sig ++ nums8 [frm, ring, start, first, synced]
def told (frm ring start first synced : Nat) : List Nat := told52 frm ring start first synced ++ num 4 (Crc.sum (told52 frm ring start first synced))
theorem told52_length (a b c e f : Nat) : (told52 a b c e f).length = 52 := by simp [told52, sig, nums8_length]
theorem told_length (a b c e f : Nat) : (told a b c e f).length = 56 := by simp [told, told52_length, num_length]
theorem told52_bytes (a b c e f : Nat) : ∀ x ∈ told52 a b c e f, x < 256 := by
  intro x hx
  rcases List.mem_append.1 hx with hx | hx
  · have : ∀ y ∈ sig, y < 256 := by decide
    exact this x hx
  · exact nums8_bytes _ x hx
theorem told_bytes (a b c e f : Nat) : ∀ x ∈ told a b c e f, x < 256 := by
  intro x hx
  rcases List.mem_append.1 hx with hx | hx
  · exact told52_bytes _ _ _ _ _ x hx
  · exact num_bytes _ _ x hx
end Wal

theorem index5 (a0 a1 a2 a3 a4 : Int) (u : World) :
    (Instr.index 164 (.agg #[.int .i64 a0, .int .i64 a1, .int .i64 a2, .int .i64 a3, .int .i64 a4]) (.int .i64 0)).run Tryz.prog u = .ok (.int .i64 a0) u ∧
    (Instr.index 164 (.agg #[.int .i64 a0, .int .i64 a1, .int .i64 a2, .int .i64 a3, .int .i64 a4]) (.int .i64 1)).run Tryz.prog u = .ok (.int .i64 a1) u ∧
    (Instr.index 164 (.agg #[.int .i64 a0, .int .i64 a1, .int .i64 a2, .int .i64 a3, .int .i64 a4]) (.int .i64 2)).run Tryz.prog u = .ok (.int .i64 a2) u ∧
    (Instr.index 164 (.agg #[.int .i64 a0, .int .i64 a1, .int .i64 a2, .int .i64 a3, .int .i64 a4]) (.int .i64 3)).run Tryz.prog u = .ok (.int .i64 a3) u ∧
    (Instr.index 164 (.agg #[.int .i64 a0, .int .i64 a1, .int .i64 a2, .int .i64 a3, .int .i64 a4]) (.int .i64 4)).run Tryz.prog u = .ok (.int .i64 a4) u := by
  refine ⟨?_, ?_, ?_, ?_, ?_⟩ <;> kernel_rfl

/-- The signature, as it is laid. -/
theorem sig_row (w : World) (b : Nat) (C : Array Value) (hb : b = w.heap.size) (hC : C = (sig.map u8v).toArray) : BRow (w.alloc (.cells C 5 (C.size, C.size + 1))) (.slice (some ⟨b, 0, none⟩) 12 12) sig := by
  subst hb hC
  refine ⟨⟨rfl, .inr ⟨w.heap.size, 0, 12, _, _, rfl, heap_alloc_new w _, .inr (Nat.le_refl _), Nat.le_refl _, by simp [maxLen], by decide, rfl⟩⟩, by decide⟩

set_option maxRecDepth 100000 in
set_option maxHeartbeats 800000 in
theorem packTold_gen (w : World) (b d : Nat) (s : LS) (G F : List Nat) (m : Dsk.DM) (zs zf zy : Int) (st fi sy : Nat) (h : LD w b G s d F m) (hf : s.frm ≤ 4096) (hr : s.ring ≤ 4096) (h1 : st < 18446744073709551616) (h2 : fi < 18446744073709551616) (h3 : sy < 18446744073709551616)
    (w2 : IntKind.u64.wrap zs = (st : Int)) (w3 : IntKind.u64.wrap zf = (fi : Int)) (w4 : IntKind.u64.wrap zy = (sy : Int)) :
    Calls Tryz.prog 77 #[.pointer (some ⟨b, 0, none⟩), .agg #[.int .i64 zs, .int .i64 zf, .int .i64 zy]] w (Packed w b G s d F m (Wal.told s.frm s.ring st fi sy)) := by
  have H := Lib.hid h
  have kc := conv_new
  have w0 : IntKind.u64.wrap (s.frm : Int) = (s.frm : Int) := by rw [IntKind.wrap_u64]; omega
  have w1 : IntKind.u64.wrap (s.ring : Int) = (s.ring : Int) := by rw [IntKind.wrap_u64]; omega
  have B0 : Hid (s.frm < 18446744073709551616) := by show _ < _; omega
  have B1 : Hid (s.ring < 18446744073709551616) := by show _ < _; omega
  have B2 := Lib.hid h1
  have B3 := Lib.hid h2
  have B4 := Lib.hid h3
  obtain ⟨vn, hl, hG⟩ := h.log
  have blt := hl.lt
  have c1 := hl.c1
  have c2 := hl.c2
  clear h hl hf hr h1 h2 h3
  go_enter Tryz.func77, Tryz.ntmps77
  go_wp2_with fail
  have RS : Hid (∀ n, NewRow w (.slice (some ⟨w.heap.size + 1, 0, none⟩) 12 12) sig (((w.alloc (.cells #[.int .i64 zs, .int .i64 zf, .int .i64 zy] 113)).alloc (.cells #[.int .u8 100, .int .u8 111, .int .u8 99, .int .u8 107, .int .u8 101, .int .u8 116, .int .u8 39, .int .u8 115, .int .u8 32, .int .u8 108, .int .u8 111, .int .u8 103] 5 (12, 13))).drewN n)) := by
    intro n
    refine ⟨(sig_row (w.alloc (.cells #[.int .i64 zs, .int .i64 zf, .int .i64 zy] 113)) (w.heap.size + 1) _ (by simp) rfl).only ((Only.refl [] _).drewN n) (fun _ _ hx => by cases hx), fun y hy => ?_⟩
    have : w.heap.size + 1 = y := by simpa [Value.ownBlock] using hy
    omega
  have BS : Hid (∀ n, Below w.heap.size w (((w.alloc (.cells #[.int .i64 zs, .int .i64 zf, .int .i64 zy] 113)).alloc (.cells #[.int .u8 100, .int .u8 111, .int .u8 99, .int .u8 107, .int .u8 101, .int .u8 116, .int .u8 39, .int .u8 115, .int .u8 32, .int .u8 108, .int .u8 111, .int .u8 103] 5 (12, 13))).drewN n)) := by
    intro n
    have h1 : Below w.heap.size w ((w.alloc (.cells #[.int .i64 zs, .int .i64 zf, .int .i64 zy] 113)).alloc (.cells #[.int .u8 100, .int .u8 111, .int .u8 99, .int .u8 107, .int .u8 101, .int .u8 116, .int .u8 39, .int .u8 115, .int .u8 32, .int .u8 108, .int .u8 111, .int .u8 103] 5 (12, 13))) := ((Below.refl _ _).alloc (Nat.le_refl _) _).alloc (by simp) _
    exact h1.trans ⟨rfl, rfl, rfl, Nat.le_refl _, fun _ _ => rfl⟩
  go_quiet (fail)
  have R1 := Lib.hid (RS.out nq)
  have L1 := Lib.hid (BS.out nq)
  clear RS BS kc c1 c2
  generalize ((w.alloc (.cells #[.int .i64 zs, .int .i64 zf, .int .i64 zy] 113)).alloc (.cells #[.int .u8 100, .int .u8 111, .int .u8 99, .int .u8 107, .int .u8 101, .int .u8 116, .int .u8 39, .int .u8 115, .int .u8 32, .int .u8 108, .int .u8 111, .int .u8 103] 5 (12, 13))).drewN nq = wa at *
  obtain ⟨fs, hfs⟩ : ∃ fs : List Nat, fs = [s.frm, s.ring, st, fi, sy] := ⟨_, rfl⟩
  have FS := Lib.hid hfs
  clear hfs
  go_wp2_with fail
  go_loopw [5, 25] (fun p i wr => ∃ k : Nat, k ≤ 5 ∧ i = .int .i64 k ∧ NewRow w p (sig ++ nums8 (fs.take k)) wr ∧ Below w.heap.size w wr) (fun _ i _ => 5 - (intOf i).toNat)
  case atStart => exact ⟨0, by omega, rfl, by simpa [nums8] using R1.out, L1.out⟩
  case round =>
    obtain ⟨k, hk, rfl, hr, hB⟩ := hrel
    obtain ⟨A, c, rfl, _⟩ := hr.1.form
    have R := Lib.hid hr
    have B := Lib.hid hB
    clear hr hB
    by_cases hlt : k < 5
    · have HL : Hid ((sig ++ nums8 (fs.take k)).length ≤ 3000000000) := by
        show _ ≤ _
        rw [List.length_append, nums8_length, List.length_take]
        show 12 + _ ≤ _
        omega
      have HS : Hid (∀ x, fs[k]? = some x → sig ++ nums8 (fs.take (k + 1)) = sig ++ nums8 (fs.take k) ++ num 8 x) := by
        intro x hx
        rw [List.take_add_one, hx]
        show sig ++ nums8 (fs.take k ++ [x]) = _
        rw [nums8_snoc, List.append_assoc]
      generalize sig ++ nums8 (fs.take k) = L at *
      obtain rfl | rfl | rfl | rfl | rfl : k = 0 ∨ k = 1 ∨ k = 2 ∨ k = 3 ∨ k = 4 := by omega
      · have ix := (index5 (s.frm : Int) (s.ring : Int) zs zf zy wr).1
        go_wp2_with fail
        refine (appendNumber_any _ _ _ s.frm 8 R.out.1 B0.out (by omega) HL.out).mono ?_
        intro e wb hA
        obtain ⟨vb, rfl, rb, bb⟩ := hA.new R.out B.out
        have BB := Lib.hid bb
        obtain ⟨A2, c2, rfl, _⟩ := rb.1.form
        have RB := Lib.hid rb
        clear hA rb bb ix
        rw [List.length_append] at RB
        go_wp2_with fail
        go_roundw
        case rel => exact ⟨1, by omega, rfl, by rw [HS.out s.frm (by rw [FS.out]; rfl)]; exact RB.out, BB.out⟩
        case measure => simp [intOf]
      · have ix := (index5 (s.frm : Int) (s.ring : Int) zs zf zy wr).2.1
        go_wp2_with fail
        refine (appendNumber_any _ _ _ s.ring 8 R.out.1 B1.out (by omega) HL.out).mono ?_
        intro e wb hA
        obtain ⟨vb, rfl, rb, bb⟩ := hA.new R.out B.out
        have BB := Lib.hid bb
        obtain ⟨A2, c2, rfl, _⟩ := rb.1.form
        have RB := Lib.hid rb
        clear hA rb bb ix
        rw [List.length_append] at RB
        go_wp2_with fail
        go_roundw
        case rel => exact ⟨2, by omega, rfl, by rw [HS.out s.ring (by rw [FS.out]; rfl)]; exact RB.out, BB.out⟩
        case measure => simp [intOf]
      · have ix := (index5 (s.frm : Int) (s.ring : Int) zs zf zy wr).2.2.1
        go_wp2_with fail
        refine (appendNumber_any _ _ _ st 8 R.out.1 B2.out (by omega) HL.out).mono ?_
        intro e wb hA
        obtain ⟨vb, rfl, rb, bb⟩ := hA.new R.out B.out
        have BB := Lib.hid bb
        obtain ⟨A2, c2, rfl, _⟩ := rb.1.form
        have RB := Lib.hid rb
        clear hA rb bb ix
        rw [List.length_append] at RB
        go_wp2_with fail
        go_roundw
        case rel => exact ⟨3, by omega, rfl, by rw [HS.out st (by rw [FS.out]; rfl)]; exact RB.out, BB.out⟩
        case measure => simp [intOf]
      · have ix := (index5 (s.frm : Int) (s.ring : Int) zs zf zy wr).2.2.2.1
        go_wp2_with fail
        refine (appendNumber_any _ _ _ fi 8 R.out.1 B3.out (by omega) HL.out).mono ?_
        intro e wb hA
        obtain ⟨vb, rfl, rb, bb⟩ := hA.new R.out B.out
        have BB := Lib.hid bb
        obtain ⟨A2, c2, rfl, _⟩ := rb.1.form
        have RB := Lib.hid rb
        clear hA rb bb ix
        rw [List.length_append] at RB
        go_wp2_with fail
        go_roundw
        case rel => exact ⟨4, by omega, rfl, by rw [HS.out fi (by rw [FS.out]; rfl)]; exact RB.out, BB.out⟩
        case measure => simp [intOf]
      · have ix := (index5 (s.frm : Int) (s.ring : Int) zs zf zy wr).2.2.2.2
        go_wp2_with fail
        refine (appendNumber_any _ _ _ sy 8 R.out.1 B4.out (by omega) HL.out).mono ?_
        intro e wb hA
        obtain ⟨vb, rfl, rb, bb⟩ := hA.new R.out B.out
        have BB := Lib.hid bb
        obtain ⟨A2, c2, rfl, _⟩ := rb.1.form
        have RB := Lib.hid rb
        clear hA rb bb ix
        rw [List.length_append] at RB
        go_wp2_with fail
        go_roundw
        case rel => exact ⟨5, by omega, rfl, by rw [HS.out sy (by rw [FS.out]; rfl)]; exact RB.out, BB.out⟩
        case measure => simp [intOf]
    · obtain rfl : k = 5 := by omega
      have e52 : sig ++ nums8 (fs.take 5) = told52 s.frm s.ring st fi sy := by rw [FS.out]; rfl
      have hl52 : (sig ++ nums8 (fs.take 5)).length = 52 := by rw [e52, told52_length]
      rw [hl52, e52] at R
      rw [hl52]
      obtain ⟨A', c', hv', tc⟩ := R.out.1.form
      obtain ⟨rfl, rfl⟩ : A = A' ∧ c = c' := by
        injection hv' with h1 h2 h3
        exact ⟨h1, h3⟩
      rw [told52_length] at tc
      have TC := Lib.hid tc
      clear tc hv' e52 hl52 w0 w1 w2 w3 w4
      have LC := Lib.hid (H.out.under B.out)
      go_wp2_with fail
      refine (tab_sum b _ 52 _ (told52 s.frm s.ring st fi sy) _ (by omega) TC.out (fun _ x hx => by
        subst hx
        have h1 := R.out.2 x.block rfl
        have h2 := H.out.blt
        omega) LC.out.fit).mono ?_
      rintro e wd ⟨rfl, hf, ho⟩
      have KD := Lib.hid ((LKept.under (LKept.refl H.out) B.out).trans (LC.out.summed ho hf))
      have RD : Hid (BRow wd (.slice A 52 c) (told52 s.frm s.ring st fi sy)) := R.out.1.only ho.only (fun g hg e => by
        have h1 := R.out.2 g hg
        have h2 := H.out.blt
        obtain rfl : g = b := by simpa using e
        omega)
      have HQ := Lib.hid (Crc.sum_lt (told52_bytes s.frm s.ring st fi sy))
      have OD := Lib.hid ho.only.size
      clear hf ho
      generalize hq : Crc.sum (told52 s.frm s.ring st fi sy) = q at *
      have EQ := Lib.hid hq
      have w3 : IntKind.u64.wrap (q : Int) = (q : Int) := by have := HQ.out; rw [IntKind.wrap_u64]; omega
      clear hq
      go_wp2_with fail
      refine (appendNumber_any _ _ _ q 4 RD.out (by have := HQ.out; omega) (by omega) (by rw [told52_length]; omega)).mono ?_
      rintro e we ⟨ve, rfl, re, oe, ae⟩
      have KE : Hid (LKept w b G s d F m we) := by
        refine ⟨KD.out.1.only oe (fun x hx e => ?_) (fun x hx e => ?_), KD.out.2.trans oe (fun x hx => .inr (R.out.2 x (by simpa using hx)))⟩
        · have h1 := R.out.2 x (by simpa using e)
          have h2 := H.out.glt x hx
          omega
        · have h1 := R.out.2 x (by simpa using e)
          have h2 := H.out.flt x hx
          omega
      have RE := Lib.hid re
      have AE : Hid (∀ y, ve.ownBlock = some y → w.heap.size ≤ y) := fun y hy => by
        rcases ae y hy with h | h
        · exact R.out.2 y h
        · have h1 := B.out.size
          have h2 := OD.out
          omega
      obtain ⟨A4, c4, rfl, _⟩ := re.form
      clear re oe ae
      go_wp2_with fail
      go_ret
      refine ⟨_, rfl, ⟨?_, AE.out⟩, KE.out⟩
      unfold Wal.told
      rw [EQ.out]
      exact RE.out
theorem packTold_any (w : World) (b d : Nat) (s : LS) (G F : List Nat) (m : Dsk.DM) (st fi sy : Nat) (h : LD w b G s d F m) (hf : s.frm ≤ 4096) (hr : s.ring ≤ 4096) (h1 : st ≤ 4611686018427387904) (h2 : fi ≤ 4611686018427387904) (h3 : sy ≤ 4611686018427387904) :
    Calls Tryz.prog 77 #[.pointer (some ⟨b, 0, none⟩), .agg #[.int .i64 (st : Int), .int .i64 (fi : Int), .int .i64 (sy : Int)]] w (Packed w b G s d F m (Wal.told s.frm s.ring st fi sy)) :=
  packTold_gen w b d s G F m st fi sy st fi sy h hf hr (by omega) (by omega) (by omega) (by rw [IntKind.wrap_u64]; omega) (by rw [IntKind.wrap_u64]; omega) (by rw [IntKind.wrap_u64]; omega)
end Go.Proofs.YtkajneeihhobhaaGreat
