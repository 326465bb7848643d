/-
  uri: what UriBytes says, over lists of bytes.
-/
import Derived.Test.YtpnmddealjoiiaaDoorU30
import Derived.Test.YtpnmddealjoiiaaDoorU9
import Derived.ArgAppend
import Derived.Lib.UnsafeStr
namespace Go.Proofs.YtpnmddealjoiiaaDoor
open Go.ChangeShapes Go.WideShapes Go.ChangeAt Go.RowKit Uri

/-- Each byte written as % and two digits. -/
def encD (D : Nat → Nat) (s : List Nat) : List Nat := s.flatMap fun c => [37, D (c / 16), D (c % 16)]
theorem encD_cons (D : Nat → Nat) (c : Nat) (s : List Nat) : encD D (c :: s) = 37 :: D (c / 16) :: D (c % 16) :: encD D s := by simp [encD]
theorem encD_snoc (D : Nat → Nat) (s : List Nat) (c : Nat) : encD D (s ++ [c]) = encD D s ++ [37, D (c / 16), D (c % 16)] := by simp [encD]
theorem encD_len (D : Nat → Nat) : ∀ s : List Nat, (encD D s).length = 3 * s.length
  | [] => rfl
  | c :: s => by
    rw [encD_cons]
    simp only [List.length_cons, encD_len D s]
    omega
def Digits (D : Nat → Nat) : Prop := ∀ x, x < 16 → hex (D x) = some x ∧ vis (D x) = true ∧ D x ≠ 47
theorem digits_up : Digits dig := fun _ h => ⟨hex_dig h, (dig_vis h).1, (dig_vis h).2⟩
theorem digits_low : Digits digS := fun x h => ⟨hex_digS h, by
  unfold digS
  simp only [vis, decide_eq_true_eq]
  split <;> omega, by
  unfold digS
  split <;> omega⟩
theorem encD_vis {D : Nat → Nat} (hD : Digits D) : ∀ {s : List Nat}, (∀ x ∈ s, x < 256) → ∀ y ∈ encD D s, vis y = true ∧ y ≠ 47
  | [], _, y, hy => by cases hy
  | c :: s, hb, y, hy => by
    have hc := hb c (by simp)
    rw [encD_cons] at hy
    rcases List.mem_cons.1 hy with rfl | hy
    · exact ⟨by decide, by decide⟩
    rcases List.mem_cons.1 hy with rfl | hy
    · exact (hD _ (by omega)).2
    rcases List.mem_cons.1 hy with rfl | hy
    · exact (hD _ (by omega)).2
    exact encD_vis hD (fun x hx => hb x (by simp [hx])) y hy
theorem encD_dec {D : Nat → Nat} (hD : Digits D) : ∀ {s : List Nat}, (∀ x ∈ s, x < 256) → dec (encD D s) = some s
  | [], _ => dec_nil
  | c :: s, hb => by
    have hc := hb c (by simp)
    rw [encD_cons, dec_pct (hD (c / 16) (by omega)).1 (hD (c % 16) (by omega)).1, encD_dec hD (fun x hx => hb x (by simp [hx]))]
    show some ((c / 16 * 16 + c % 16) :: s) = _
    rw [show c / 16 * 16 + c % 16 = c by omega]
theorem bytes_parse {D : Nat → Nat} (hD : Digits D) {s : List Nat} (hb : ∀ x ∈ s, x < 256) :
    Uri.parse ([47] ++ encD D s) = if fine s = true then (if 64 < s.length then ([], false, 5) else if s = [46, 46] then ([], false, 20) else if dots s = true then ([], true, 0) else ([s], false, 0)) else ([], false, 20) := by
  have hv : visible (47 :: encD D s) = true := vis_all (fun y hy => by
    rcases List.mem_cons.1 hy with rfl | hy
    · decide
    · exact (encD_vis hD hb y hy).1)
  have h47 : 47 ∉ encD D s := fun h => (encD_vis hD hb 47 h).2 rfl
  show Uri.parse (47 :: encD D s) = _
  rw [parse_slash rfl, rest_ok hv rfl]
  show Uri.walk (pieces (encD D s)) [] false = _
  rw [pieces_one h47]
  by_cases hf : fine s = true
  · rw [if_pos hf]
    have hs : Uri.says (encD D s) = some s := by
      unfold Uri.says
      rw [encD_dec hD hb]
      simp [Option.filter, hf]
    rw [walk_some hs]
    split
    · rfl
    split
    · rfl
    split
    · unfold Uri.walk
      rfl
    · unfold Uri.walk
      rfl
  · rw [if_neg hf]
    have hs : Uri.says (encD D s) = none := by
      unfold Uri.says
      rw [encD_dec hD hb]
      simp [Option.filter, hf]
    exact walk_none hs _ _ _
/-- A row of bytes that is the call's own: one that append made, or the one byte that was converted. -/
def FB (w : World) (base : Nat) (v : Value) (l : List Nat) : Prop := OwnB w base 5 v l ∨ (l = [47] ∧ ∃ g, v = .slice (some ⟨g, 0, none⟩) 1 1 ∧ base ≤ g ∧ Bts w (some ⟨g, 0, none⟩) 1 [47])
theorem FB.alloc {w : World} {base : Nat} {v : Value} {l : List Nat} (h : FB w base v l) (o : Obj) : FB (w.alloc o) base v l := by
  rcases h with h | ⟨rfl, g, rfl, hg, hb⟩
  · exact .inl (h.alloc o)
  · obtain ⟨b', off', e, hl, _⟩ := hb.2.2 (by omega)
    injection e with e
    injection e with e1 _ _
    exact .inr ⟨rfl, g, rfl, hg, hb.below ((Below.refl _ _).alloc (Nat.le_refl _) _) (fun a ha => by
      injection ha with ha
      rw [← ha]
      show g < _
      rw [e1]
      exact hl)⟩
theorem FB.drew {w : World} {base : Nat} {v : Value} {l : List Nat} (h : FB w base v l) : FB w.drew base v l := h
theorem FB.any {w : World} {base : Nat} {v : Value} {l : List Nat} (h : FB w base v l) : ∃ A cap, v = .slice A l.length cap ∧ Bts w A l.length l := by
  rcases h with h | ⟨rfl, g, rfl, hg, hb⟩
  · exact h.any
  · exact ⟨_, 1, rfl, hb⟩
theorem run_append_fb (w : World) (base : Nat) (ty : TypeId) (v : Value) (k : List Nat) (h : FB w base v k) (A : Option Addr) (m c : Nat) (l : List Nat) (hb : Bts w A m l) (hm : 1 ≤ m) (hr : k.length + m ≤ 140737488355328) (hbase : base ≤ w.heap.size) :
    ∃ v' w', (Builtin.append_ #[35, 35] ty #[v, .slice A m c]).run Tryd.prog w = .ok v' w' ∧ OwnB w' base 5 v' (k ++ l) ∧ Below base w w' := by
  rcases h with h | ⟨rfl, g, rfl, hg, hbt⟩
  · obtain ⟨v', w', h1, h2, h3, _⟩ := run_append_bts byteT base ty v k h A m c l hb hr hbase
    exact ⟨v', w', h1, h2, h.grown (Below.refl _ _) h3 hbase⟩
  · obtain ⟨i, hi, hz, hsize, hby⟩ := info_parts byteT.hi
    obtain ⟨b, off, rfl, _, _⟩ := hb.2.2 (by omega)
    obtain ⟨v', w', hrun, h2, h3⟩ := run_append_arg_grows (P := Tryd.prog) w 35 ty 5 i (.int .u8 0) 1 1 byteT.ht hi hz hsize hby rfl (by omega) ⟨g, 0, none⟩ 1 1 ([47].map u8v) rfl (hbt.at_ rfl) ⟨b, off, none⟩ m c (l.map u8v) (by simp [hb.1]) (hb.at_ rfl) (by omega)
      (by simp only [maxLen]; simp at hr; omega) (by simp at hr; omega)
    refine ⟨v', w', hrun, ⟨?_, fun x hx => (List.mem_append.1 hx).elim (hbt.2.1 x) (hb.2.1 x)⟩, ⟨h3.os, h3.tape, h3.output, h3.size, fun k hk => h3.block k (by omega) (by simp)⟩⟩
    rw [List.length_append, List.map_append, hb.1]
    exact ⟨h2.1, h2.2.imp id (fun ⟨g, cap, cur, a1, a2, r⟩ => ⟨g, cap, cur, a1, Nat.le_trans hbase a2, r⟩)⟩
theorem step_append_fb (w : World) {ops : Array Oper} {o : Oper} {a : Act} {K : Act → World → Prop} {Q : Exit → Act → World → Prop} {E : Prop} (hgd : o.guard = none) (s x : Operand)
    (ho : o.op = .call { callee := .builtin .append, args := #[s, x], argTypes := #[35, 35] })
    (base : Nat) (v : Value) (k : List Nat) (hs : a.eval s = v) (hown : FB w base v k)
    (A : Option Addr) (m c : Nat) (l : List Nat) (hx : a.eval x = .slice A m c) (hb : Bts w A m l) (hm : 1 ≤ m) (hr : k.length + m ≤ 140737488355328) (hbase : base ≤ w.heap.size)
    (h : ∀ v' w', OwnB w' base 5 v' (k ++ l) → Below base w w' → K (a.put o.dst v') w') :
    if Region.wanted o (yielded ops a.tmps) = true then Oper.wp Tryd.prog o a w K Q else E := by
  have hw : Region.wanted o (yielded ops a.tmps) = true := by simp [Region.wanted, hgd]
  rw [if_pos hw]
  obtain ⟨v', w', hrun, h2, h3⟩ := run_append_fb w base o.type v k hown A m c l hb hm hr hbase
  unfold Oper.wp execOp
  simp only [ho, resolve, invoke, builtin, Sem.run_bind, Sem.run_pure, Result.andThen_ok, List.map_toArray, List.map_cons, List.map_nil, hs, hx, hrun]
  exact h v' w' h2 h3
/-- The one byte, converted: its block is marked behind its last cell. -/
theorem cv_mark (u : World) (g : Nat) (h : u.heap[g]? = some (.cells #[.int .u8 47] 5 (0, 0))) :
    (convert 35 35 (.slice (some ⟨g, 0, none⟩) 1 1)).run Tryd.prog u = .ok (.slice (some ⟨g, 0, none⟩) 1 1) (u.freeze ⟨g, 1, none⟩ 1) := by
  have hs : u.shape? g = some (5, 1) := by simp [World.shape?, h]
  simp [convert, markStringish, go_sem, hs]
theorem fb_mark (w1 : World) (base : Nat) (hb : base ≤ w1.heap.size) : FB ((w1.alloc (.cells #[.int .u8 47] 5)).freeze ⟨w1.heap.size, 1, none⟩ 1) base (.slice (some ⟨w1.heap.size, 0, none⟩) 1 1) [47] := by
  have hh : ((w1.alloc (.cells #[.int .u8 47] 5)).freeze ⟨w1.heap.size, 1, none⟩ 1).heap[w1.heap.size]? = some (.cells #[.int .u8 47] 5 (1, 2)) := by
    have h0 := heap_alloc_new w1 (.cells #[.int .u8 47] 5)
    unfold World.freeze
    rw [if_neg (by omega)]
    simp only [Array.getElem?_modify, if_true, h0]
    rfl
  refine .inr ⟨rfl, _, rfl, hb, rfl, by simp, fun _ => ⟨_, 0, rfl, (Array.getElem?_eq_some_iff.1 hh).1, fun i hi => ?_⟩⟩
  obtain rfl : i = 0 := by omega
  rw [cell_of_row _ _ 0 _ _ _ hh]
  rfl
end Go.Proofs.YtpnmddealjoiiaaDoor
