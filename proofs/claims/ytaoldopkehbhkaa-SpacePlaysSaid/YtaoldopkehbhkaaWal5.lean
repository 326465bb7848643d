/-
  wal: the contracts of appendNumber and readNumber.
-/
import Derived.Test.YtaoldopkehbhkaaWal4
import Derived.Test.YtaoldopkehbhkaaWalNum
import Derived.Laws.ShiftsVarLaws
namespace Go.Proofs.Ytaoldopkehbhkaa
open Go.RowKit Wal

/-- A slice of bytes that may be appended to. -/
def BRow (w : World) (v : Value) (l : List Nat) : Prop := SRow w 5 1 v l.length (l.map u8v) ∧ ∀ x ∈ l, x < 256

section
variable {w w' : World} {v : Value} {l : List Nat}
theorem BRow.nil (w : World) : BRow w (.slice none 0 0) [] := ⟨SRow.nil _ _ _, by simp⟩
theorem BRow.only {F : List Nat} (h : BRow w v l) (k : Only F w w') (hn : ∀ g, v.ownBlock = some g → g ∉ F) : BRow w' v l := ⟨h.1.only k hn, h.2⟩
theorem BRow.below (h : BRow w v l) (k : Below w.heap.size w w') : BRow w' v l := h.only (Only.of_below (F := []) k) (fun _ _ hx => by cases hx)
theorem BRow.of_own {base : Nat} (h : OwnB w base 5 v l) : BRow w v l := ⟨.of_own h.1, h.2⟩
theorem BRow.form (h : BRow w v l) : ∃ A c, v = .slice A l.length c ∧ Bts w A l.length l := by
  obtain ⟨A, c, rfl⟩ := h.1.form
  refine ⟨A, c, rfl, rfl, h.2, fun hn => ?_⟩
  obtain ⟨g, off, e, hl, hc⟩ := h.1.at_ rfl hn
  refine ⟨g, off, e, hl, fun i hi => hc i _ ?_⟩
  rw [List.getElem?_map, List.getElem?_eq_getElem hi, List.getD_eq_getElem?_getD, List.getElem?_eq_getElem hi]
  rfl
theorem BRow.lt (h : BRow w v l) : ∀ g, v.ownBlock = some g → g < w.heap.size := h.1.lt
end

/-- One byte more. -/
theorem run_append_byte (w : World) (ty : TypeId) (v : Value) (l : List Nat) (h : BRow w v l) (x : Nat) (hx : x < 256) (g c : Nat) (hc : w.cell? ⟨g, 0, none⟩ = some (.int .u8 (x : Int))) (hl : l.length ≤ 4000000000) :
    ∃ v' w', (Builtin.append_ #[48, 48] ty #[v, .slice (some ⟨g, 0, none⟩) 1 c]).run Try.prog w = .ok v' w' ∧ BRow w' v' (l ++ [x]) ∧ w.grownBy w' v.ownBlock ∧ (∀ y, v'.ownBlock = some y → v.ownBlock = some y ∨ w.heap.size ≤ y) := by
  obtain ⟨i, hi, hz, hsize, hby⟩ := info_parts info5
  obtain ⟨v', w', h1, h2, h3, h4⟩ := run_append_srow (P := Try.prog) w 48 ty 5 i (.int .u8 0) 1 1 Try.underlying48 hi hz hsize hby rfl (by omega) v l.length (l.map u8v) h.1 ⟨g, 0, none⟩ 1 c [u8v x] rfl
    (fun j u hu => by
      obtain rfl : j = 0 := by
        rcases j with _ | j
        · rfl
        · simp at hu
      have e : u8v x = u := by simpa using hu
      rw [← e]
      exact hc) (fun u hu => by
        have : u = u8v x := by simpa using hu
        rw [this]; rfl) (by simp only [maxLen]; omega) (by omega)
  refine ⟨v', w', h1, ⟨?_, fun y hy => ?_⟩, h3, h4⟩
  · rw [List.length_append, List.map_append]
    exact h2
  · rcases List.mem_append.1 hy with hy | hy
    · exact h.2 y hy
    · have : y = x := by simpa using hy
      omega
theorem wpList_append_byte {ops : Array Oper} {rest : List Oper} {o : Oper} {a : Act} {w : World} {Q : Exit → Act → World → Prop} (hgd : o.guard = none) (s x : Operand)
    (ho : o.op = .call { callee := .builtin .append, args := #[s, x], argTypes := #[48, 48] }) (v : Value) (l : List Nat) (hs : a.eval s = v) (hr : BRow w v l) (g c : Nat) (b : Nat) (hx : a.eval x = .slice (some ⟨g, 0, none⟩) 1 c) (hb : b < 256)
    (hc : w.cell? ⟨g, 0, none⟩ = some (.int .u8 (b : Int))) (hl : l.length ≤ 4000000000)
    (h : ∀ v' w', BRow w' v' (l ++ [b]) → w.grownBy w' v.ownBlock → (∀ y, v'.ownBlock = some y → v.ownBlock = some y ∨ w.heap.size ≤ y) → wpList Try.prog ops Q rest (a.put o.dst v') w') : wpList Try.prog ops Q (o :: rest) a w := by
  obtain ⟨v', w', h1, h2, h3, h4⟩ := run_append_byte w o.type v l hr b hb g c hc hl
  refine wpList_plain hgd fun _ hK => ?_
  unfold Oper.wp execOp
  simp only [ho, resolve, invoke, builtin, Sem.run_bind, Sem.run_pure, Result.andThen_ok, List.map_toArray, List.map_cons, List.map_nil, hs, hx, h1]
  exact hK _ _ (h v' w' h2 h3 h4)

/-- What appendNumber leaves: the bytes behind those of v, in v's block or a new one. -/
def Appended (w : World) (v : Value) (l : List Nat) (e : Ending) (w' : World) : Prop :=
  ∃ v', e = .returned v' ∧ BRow w' v' l ∧ Only v.ownBlock.toList w w' ∧ ∀ y, v'.ownBlock = some y → v.ownBlock = some y ∨ w.heap.size ≤ y

set_option maxRecDepth 100000 in
set_option maxHeartbeats 400000 in
theorem appendNumber_any (w : World) (v : Value) (l : List Nat) (x k : Nat) (h : BRow w v l) (hx : x < 18446744073709551616) (hk : k ≤ 8) (hl : l.length ≤ 3000000000) :
    Calls Try.prog 59 #[v, .int .u64 (x : Int), .int .i64 (k : Int)] w (Appended w v (l ++ num k x)) := by
  obtain ⟨A, c, rfl, _⟩ := h.form
  have H := Lib.hid h
  have HX := Lib.hid hx
  clear h hx
  go_enter Try.func59, Try.ntmps59
  go_wp2
  go_loopw [0, 1, 8] (fun b y i wr => ∃ j : Nat, j ≤ k ∧ i = .int .i64 j ∧ y = .int .u64 (x / 256 ^ j : Nat) ∧ BRow wr b (l ++ num j x) ∧ Only (Value.slice A l.length c).ownBlock.toList w wr ∧ ∀ z, b.ownBlock = some z → (Value.slice A l.length c).ownBlock = some z ∨ w.heap.size ≤ z) (fun _ _ i _ => k - (intOf i).toNat)
  case atStart => exact ⟨0, by omega, rfl, by simp, by simpa [num] using H.out, Only.refl _ _, fun _ h => .inl h⟩
  case round =>
    obtain ⟨j, hj, rfl, rfl, hr, ho, hw⟩ := hrel
    obtain ⟨A', c', rfl, _⟩ := hr.form
    have R := Lib.hid hr
    have O := Lib.hid ho
    have W := Lib.hid hw
    clear hr ho hw
    by_cases hlt : j < k
    · have N := Lib.hid (num_snoc j x)
      have hd : x / 256 ^ (j + 1) = x / 256 ^ j / 256 := by rw [Nat.div_div_eq_div_mul, Nat.pow_succ]
      have HD := Lib.hid hd
      have hlen : Hid ((l ++ num j x).length ≤ 4000000000) := by show _ ≤ _; rw [List.length_append, num_length]; omega
      clear hd
      generalize hyy : x / 256 ^ j = y at *
      clear hyy
      have hm : IntKind.u8.wrap (y : Int) = ((y % 256 : Nat) : Int) := by rw [IntKind.wrap_u8']; omega
      have hb : y % 256 < 256 := by omega
      generalize hzz : y % 256 = z at *
      clear hzz
      go_wp2_with (refine wpList_append_byte rfl (o := ⟨some 14, _, _, _, _, _⟩) (.tmp 10) (.tmp 13) rfl _ _ rfl (R.out.below ((Below.refl _ _).alloc (Nat.le_refl _) _)) wr.heap.size 1 z rfl hb (by rw [World.cell?_alloc_new]; rfl) hlen.out ?_; intro v' w' q1 q2 q3)
      have Q2 := (Only.refl [] wr).alloc (.cells #[.int .u8 (z : Int)] 5)
      go_roundw
      case rel =>
        refine ⟨j + 1, by omega, by go_num, by rw [HD.out]; rfl, by rw [N.out, ← List.append_assoc]; exact q1, ?_, fun t ht => ?_⟩
        · refine (O.out.trans (G := []) Q2 (fun _ hx => by cases hx)).grown q2 (fun t ht => ?_)
          rcases W.out t ht with h | h
          · exact .inl (by simp [h])
          · exact .inr h
        · rcases q3 t ht with h | h
          · exact W.out t h
          · right
            have h1 := O.out.size
            have h2 := Q2.size
            omega
      case measure => simp [intOf]; omega
    · obtain rfl : j = k := by omega
      go_wp2
      go_ret
      exact ⟨_, rfl, R.out, O.out, W.out⟩

theorem unnum_take {l : List Nat} {k : Nat} (hk : k < l.length) : unnum (l.take (k + 1)) = unnum (l.take k) + l.getD k 0 * 256 ^ k := by
  rw [List.take_succ_eq_append_getElem hk, unnum_snoc, List.length_take, Nat.min_eq_left (by omega), List.getD_eq_getElem?_getD, List.getElem?_eq_getElem hk]
  rfl

end Go.Proofs.Ytaoldopkehbhkaa
