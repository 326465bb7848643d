/-
  blob: numbers laid behind bytes, in a row of the call's own and in a block of 512 bytes that is known whole; numbers read.
-/
import Derived.Test.YtlofpbmceipkkaaM8
import Derived.Test.YtlofpbmceipkkaaWalNum
import Derived.Laws.ShiftsVarLaws
import Derived.ArgAppend
namespace Go.Proofs.Ytlofpbmceipkkaa
open Go.RowKit Wal

/-- Block g is the bytes l, and zeros up to 512. -/
structure Tld (w : World) (g : Nat) (l : List Nat) : Prop where
  held : Held w g 5 ((pad l).map u8v).toArray
  bytes : ∀ x ∈ l, x < 256
  fits : l.length ≤ 512
section
variable {w w' : World} {g : Nat} {l : List Nat}
theorem pad_set {l : List Nat} (h : l.length < 512) (x : Nat) : (pad l).set l.length x = pad (l ++ [x]) := by
  unfold pad
  rw [List.set_append_right _ _ (Nat.le_refl _), Nat.sub_self]
  obtain ⟨m, hm⟩ : ∃ m, 512 - l.length = m + 1 := ⟨511 - l.length, by omega⟩
  rw [hm, List.replicate_succ, List.set_cons_zero, List.length_append, List.length_singleton, show 512 - (l.length + 1) = m by omega, List.append_assoc]
  rfl
theorem Tld.set_ (h : Tld w g l) (hl : l.length < 512) (x : Nat) (hx : x < 256) : Tld (w.setCell ⟨g, l.length, none⟩ (u8v x)) g (l ++ [x]) := by
  refine ⟨?_, fun y hy => ?_, by simp; omega⟩
  · have := h.held.set_ l.length (u8v x)
    rw [← pad_set hl, List.map_set]
    simpa using this
  · rcases List.mem_append.1 hy with hy | hy
    · exact h.bytes y hy
    · have : y = x := by simpa using hy
      omega
theorem Tld.only {F : List Nat} (h : Tld w g l) (k : Only F w w') (hg : g ∉ F) : Tld w' g l := ⟨h.held.only k hg, h.bytes, h.fits⟩
theorem Tld.below (h : Tld w g l) (k : Below w.heap.size w w') : Tld w' g l := ⟨h.held.below k h.held.lt, h.bytes, h.fits⟩
theorem Tld.bts (h : Tld w g l) {n : Nat} (hn : n ≤ 512) : Bts w (some ⟨g, 0, none⟩) n ((pad l).take n) := by
  have hp := pad_length h.fits
  refine ⟨by rw [List.length_take, hp]; omega, fun x hx => pad_bytes h.bytes x (List.mem_of_mem_take hx), fun _ => ⟨g, 0, rfl, h.held.lt, fun i hi => ?_⟩⟩
  have hl : i < (pad l).length := by rw [hp]; omega
  rw [Nat.zero_add, h.held.cell i, List.getElem?_toArray, List.getElem?_map, List.getElem?_eq_getElem hl, List.getD_eq_getElem?_getD, List.getElem?_take, if_pos hi, List.getElem?_eq_getElem hl]
  rfl
theorem run_append_tld (h : Tld w g l) (hl : l.length < 512) (ty : TypeId) (a c : Nat) (x : Nat) (hc : w.cell? ⟨a, 0, none⟩ = some (.int .u8 (x : Int))) :
    (Builtin.append_ #[45, 45] ty #[.slice (some ⟨g, 0, none⟩) l.length 512, .slice (some ⟨a, 0, none⟩) 1 c]).run Try.prog w = .ok (.slice (some ⟨g, 0, none⟩) (l.length + 1) 512) (w.setCell ⟨g, l.length, none⟩ (u8v x)) := by
  obtain ⟨i, hi, _, hi1, _⟩ := info_parts info5
  have hp := pad_length h.fits
  have := run_append_room_cells (P := Try.prog) w 45 ty 5 i Try.underlying45 hi g 0 l.length 512 ⟨a, 0, none⟩ 1 c [u8v x] (by rw [hi1]; rfl)
    (fun j u hu => by
      obtain rfl : j = 0 := by
        rcases j with _ | j
        · rfl
        · simp at hu
      have e : u8v x = u := by simpa using hu
      rw [← e]
      exact hc) (fun u hu => by
        have : u = u8v x := by simpa using hu
        rw [this]; rfl) (by omega)
    (fun j hj => by
      have : j = 0 := by simpa using hj
      subst this
      rw [h.held.cell, hi1, List.getElem?_toArray, List.getElem?_map, List.getElem?_eq_getElem (by rw [hp]; omega)]
      rfl) (fun j hj => h.held.frozen _)
  rw [hi1] at this
  simp only [Nat.mul_one, Nat.zero_add] at this
  exact this
theorem wpList_append_tld {ops : Array Oper} {rest : List Oper} {o : Oper} {a : Act} {Q : Exit → Act → World → Prop} (hgd : o.guard = none) (s x : Operand)
    (ho : o.op = .call { callee := .builtin .append, args := #[s, x], argTypes := #[45, 45] }) (h : Tld w g l) (hl : l.length < 512) (hs : a.eval s = .slice (some ⟨g, 0, none⟩) l.length 512) (b c : Nat) (y : Nat) (hx : a.eval x = .slice (some ⟨b, 0, none⟩) 1 c)
    (hc : w.cell? ⟨b, 0, none⟩ = some (.int .u8 (y : Int)))
    (k : wpList Try.prog ops Q rest (a.put o.dst (.slice (some ⟨g, 0, none⟩) (l.length + 1) 512)) (w.setCell ⟨g, l.length, none⟩ (u8v y))) : wpList Try.prog ops Q (o :: rest) a w := by
  have h1 := run_append_tld h hl o.type b c y hc
  refine wpList_plain hgd fun _ hK => ?_
  unfold Oper.wp execOp
  simp only [ho, resolve, invoke, builtin, Sem.run_bind, Sem.run_pure, Result.andThen_ok, List.map_toArray, List.map_cons, List.map_nil, hs, hx, h1]
  exact hK _ _ k
end

set_option maxRecDepth 100000 in
set_option maxHeartbeats 400000 in
/-- appendNumber, in a block with room. -/
theorem appnum_in (w : World) (g : Nat) (l : List Nat) (x k : Nat) (h : Tld w g l) (hx : x < 18446744073709551616) (hk : k ≤ 8) (hl : l.length + k ≤ 512) :
    Calls Try.prog 68 #[.slice (some ⟨g, 0, none⟩) l.length 512, .int .u64 (x : Int), .int .i64 (k : Int)] w fun e w' => e = .returned (.slice (some ⟨g, 0, none⟩) (l.length + k) 512) ∧ Tld w' g (l ++ num k x) ∧ Only [g] w w' := by
  have H := Lib.hid h
  have HX := Lib.hid hx
  clear h hx
  go_enter Try.func68, Try.ntmps68
  go_wp2
  go_loopw [0, 1, 8] (fun b y i wr => ∃ j : Nat, j ≤ k ∧ i = .int .i64 j ∧ y = .int .u64 (x / 256 ^ j : Nat) ∧ b = .slice (some ⟨g, 0, none⟩) (l.length + j) 512 ∧ Tld wr g (l ++ num j x) ∧ Only [g] w wr) (fun _ _ i _ => k - (intOf i).toNat)
  case atStart => exact ⟨0, by omega, rfl, by simp, rfl, by simpa [num] using H.out, Only.refl _ _⟩
  case round =>
    obtain ⟨j, hj, rfl, rfl, rfl, hr, ho⟩ := hrel
    have R := Lib.hid hr
    have O := Lib.hid ho
    clear hr ho
    by_cases hlt : j < k
    · have N := Lib.hid (num_snoc j x)
      have hd : x / 256 ^ (j + 1) = x / 256 ^ j / 256 := by rw [Nat.div_div_eq_div_mul, Nat.pow_succ]
      have HD := Lib.hid hd
      have hlen : Hid ((l ++ num j x).length = l.length + j) := by show _ = _; rw [List.length_append, num_length]
      clear hd
      generalize hyy : x / 256 ^ j = y at *
      clear hyy
      have hm : IntKind.u8.wrap (y : Int) = ((y % 256 : Nat) : Int) := by rw [IntKind.wrap_u8']; omega
      have hb : y % 256 < 256 := by omega
      generalize hzz : y % 256 = z at *
      clear hzz
      have R2 : Hid (Tld (wr.alloc (.cells #[.int .u8 (z : Int)] 5)) g (l ++ num j x)) := R.out.below ((Below.refl _ _).alloc (Nat.le_refl _) _)
      have R3 : Hid (Tld ((wr.alloc (.cells #[.int .u8 (z : Int)] 5)).setCell ⟨g, (l ++ num j x).length, none⟩ (u8v z)) g ((l ++ num j x) ++ [z])) := R2.out.set_ (by rw [hlen.out]; omega) z hb
      have R4 : Hid (Only [g] w ((wr.alloc (.cells #[.int .u8 (z : Int)] 5)).setCell ⟨g, (l ++ num j x).length, none⟩ (u8v z))) := (O.out.alloc _).setCell (p := ⟨g, (l ++ num j x).length, none⟩) (.inl (by simp)) _
      go_wp2_with (refine wpList_append_tld (g := g) (l := l ++ num j x) rfl (o := ⟨some 14, _, _, _, _, _⟩) (.tmp 10) (.tmp 13) rfl R2.out (by rw [hlen.out]; omega) (by rw [hlen.out]; rfl) wr.heap.size 1 z rfl (by rw [World.cell?_alloc_new]; rfl) ?_)
      go_roundw
      case rel =>
        have r3 := R3.out
        have r4 := R4.out
        rw [List.length_append] at r3 r4
        refine ⟨j + 1, by omega, by go_num, by rw [HD.out]; rfl, by rw [num_length]; rfl, by rw [N.out, ← List.append_assoc]; exact r3, r4⟩
      case measure => simp [intOf]; omega
    · obtain rfl : j = k := by omega
      go_wp2
      go_ret
      exact ⟨rfl, R.out, O.out⟩
set_option maxRecDepth 100000 in
set_option maxHeartbeats 400000 in
/-- appendNumber, onto nothing. -/
theorem appnum_nil (w : World) (x k : Nat) (hx : x < 18446744073709551616) (hk : k ≤ 8) :
    Calls Try.prog 68 #[.slice none 0 0, .int .u64 (x : Int), .int .i64 (k : Int)] w fun e w' => ∃ v, e = .returned v ∧ OwnB w' w.heap.size 5 v (num k x) ∧ Below w.heap.size w w' := by
  have HX := Lib.hid hx
  clear hx
  go_enter Try.func68, Try.ntmps68
  go_wp2
  go_loopw [0, 1, 8] (fun b y i wr => ∃ j : Nat, j ≤ k ∧ i = .int .i64 j ∧ y = .int .u64 (x / 256 ^ j : Nat) ∧ OwnB wr w.heap.size 5 b (num j x) ∧ Below w.heap.size w wr) (fun _ _ i _ => k - (intOf i).toNat)
  case atStart => exact ⟨0, by omega, rfl, by simp, ⟨⟨rfl, .inl ⟨rfl, rfl⟩⟩, by simp [num]⟩, Below.refl _ _⟩
  case round =>
    obtain ⟨j, hj, rfl, rfl, hr, ho⟩ := hrel
    obtain ⟨A', c', rfl, _⟩ := hr.any
    have R := Lib.hid hr
    have O := Lib.hid ho
    clear hr ho
    have hnl : (num j x).length = j := num_length j x
    by_cases hlt : j < k
    · have N := Lib.hid (num_snoc j x)
      have hd : x / 256 ^ (j + 1) = x / 256 ^ j / 256 := by rw [Nat.div_div_eq_div_mul, Nat.pow_succ]
      have HD := Lib.hid hd
      clear hd
      have HN := Lib.hid hnl
      rw [hnl] at R ⊢
      clear hnl
      generalize hyy : x / 256 ^ j = y at *
      clear hyy
      have hm : IntKind.u8.wrap (y : Int) = ((y % 256 : Nat) : Int) := by rw [IntKind.wrap_u8']; omega
      have hb : y % 256 < 256 := by omega
      generalize hzz : y % 256 = z at *
      clear hzz
      have R2 : Hid (OwnB (wr.alloc (.cells #[.int .u8 (z : Int)] 5)) w.heap.size 5 (.slice A' j c') (num j x)) := R.out.alloc _
      have B2 : Hid (Bts (wr.alloc (.cells #[.int .u8 (z : Int)] 5)) (some ⟨wr.heap.size, 0, none⟩) 1 [z]) := ⟨rfl, by simpa using hb, fun _ => ⟨_, 0, rfl, by simp, fun i hi => by
        obtain rfl : i = 0 := by omega
        exact (World.cell?_alloc_new _ _ _ _).trans rfl⟩⟩
      go_wp2_with (at_builtin; refine wpList_append_bts byteT rfl (.tmp 10) (.tmp 13) rfl w.heap.size _ _ rfl R2.out (some ⟨wr.heap.size, 0, none⟩) 1 1 [z] rfl B2.out (by rw [HN.out]; omega) (by have := O.out.size; simp; omega) ?_; intro v4 w4 hown4 hg4 hv4)
      go_roundw
      case rel =>
        refine ⟨j + 1, by omega, by go_num, by rw [HD.out]; rfl, by rw [N.out]; exact hown4, R2.out.grown (O.out.alloc O.out.size _) hg4 (by have := O.out.size; simp; omega)⟩
      case measure => simp [intOf]; omega
    · obtain rfl : j = k := by omega
      go_wp2
      go_ret
      exact ⟨_, rfl, R.out, O.out⟩
theorem unnum_take {l : List Nat} {k : Nat} (hk : k < l.length) : unnum (l.take (k + 1)) = unnum (l.take k) + l.getD k 0 * 256 ^ k := by
  rw [List.take_succ_eq_append_getElem hk, unnum_snoc, List.length_take, Nat.min_eq_left (by omega), List.getD_eq_getElem?_getD, List.getElem?_eq_getElem hk]
  rfl

set_option maxRecDepth 100000 in
set_option maxHeartbeats 400000 in
theorem readNumber_any (w : World) (A : Option Addr) (n c : Nat) (l : List Nat) (h : Bts w A n l) (hn : n ≤ 8) :
    Calls Try.prog 54 #[.slice A n c] w fun e w' => e = .returned (.int .u64 (unnum l : Nat)) ∧ w = w' := by
  obtain ⟨hl, h8, hb⟩ := h
  have HL := Lib.hid hl
  clear hl
  go_enter Try.func54, Try.ntmps54
  go_wp2
  go_loop [3, 8] (fun x i => ∃ k : Nat, k ≤ n ∧ i = .int .i64 k ∧ x = .int .u64 (unnum (l.take k) : Nat)) (fun _ i => n - (intOf i).toNat)
  case atStart => exact ⟨0, by omega, rfl, rfl⟩
  case round =>
    obtain ⟨k, hk, rfl, rfl⟩ := hrel
    by_cases hlt : k < n
    · obtain ⟨b, off, rfl, _, hcell⟩ := hb (by omega)
      have hc := hcell k hlt
      have hkl : k < l.length := by rw [HL.out]; exact hlt
      have h256 : l.getD k 0 < 256 := by
        rw [List.getD_eq_getElem?_getD, List.getElem?_eq_getElem hkl]
        exact h8 _ (List.getElem_mem hkl)
      have HS := Lib.hid (unnum_take hkl)
      have hlt2 : unnum (l.take k) < 256 ^ k := by
        have := unnum_lt (l.take k) (fun x hx => h8 x (List.mem_of_mem_take hx))
        rwa [List.length_take, Nat.min_eq_left (by omega)] at this
      have hor := or_step (c := l.getD k 0) hlt2
      have hp8 := pow8 k (by omega) _ h256
      have hx64 : unnum (l.take k) < 18446744073709551616 := by
        have := Nat.pow_le_pow_right (show 0 < 256 by omega) (show k ≤ 8 by omega)
        have e : 256 ^ 8 = 18446744073709551616 := by decide
        omega
      clear hcell hb h8
      generalize unnum (l.take k) = x at *
      generalize l.getD k 0 = y at *
      have hsh : IntKind.u64.wrap ((y : Int) * 2 ^ (8 * k)) = ((y * 256 ^ k : Nat) : Int) := by
        have e2 : (2 : Int) ^ (8 * k) = ((256 ^ k : Nat) : Int) := by rw [Int.pow_mul]; norm_cast
        rw [e2, IntKind.wrap_u64]
        have e3 : (y : Int) * ((256 ^ k : Nat) : Int) = ((y * 256 ^ k : Nat) : Int) := by push_cast; rfl
        rw [e3]
        omega
      have hbo : bits .or .u64 (x : Int) ((y * 256 ^ k : Nat) : Int) = ((x + y * 256 ^ k : Nat) : Int) := by
        rw [u64_or_nat _ _ hx64 hp8, hor]
      have HV : Hid (bits .or .u64 (x : Int) (IntKind.u64.wrap ((y : Int) * 2 ^ (8 * k))) = ((x + y * 256 ^ k : Nat) : Int)) := by show _ = _; rw [hsh, hbo]
      clear hor hlt2 hx64 hp8 hsh hbo
      generalize y * 256 ^ k = z at *
      go_wp2
      go_round
      case rel => exact ⟨k + 1, by omega, by go_num, by rw [HS.out]; exact congrArg (Value.int .u64) HV.out⟩
      case measure => simp [intOf]; omega
    · obtain rfl : k = n := by omega
      go_wp2
      go_ret
      have e : l.take k = l := List.take_of_length_le (by rw [HL.out]; exact Nat.le_refl _)
      exact ⟨by rw [← congrArg unnum e]; rfl, rfl⟩
end Go.Proofs.Ytlofpbmceipkkaa
