/-
  blob: rows of numbers of the call's own; a block, read through the store's interface; bytes.Equal; unpack.
-/
import Derived.Test.YtlofpbmceipkkaaM10
namespace Go.Proofs.Ytlofpbmceipkkaa
open Go.RowKit Wal Blob

def i64v (x : Nat) : Value := .int .i64 (x : Int)
theorem infoI : (Try.prog.info? 3).map (fun i => (i.zero, i.size, i.bytes)) = some (some (.int .i64 0), 1, 8) := by kernel_rfl
/-- A row of the call's own that holds these numbers. -/
def OwnI (w : World) (base : Nat) (v : Value) (bs : List Nat) : Prop := w.ownsRow base 3 1 v bs.length (bs.map i64v)
section
variable {w w' : World} {base : Nat} {v : Value} {bs : List Nat}
theorem OwnI.nil (w : World) (base : Nat) : OwnI w base (.slice none 0 0) [] := ⟨rfl, .inl ⟨rfl, rfl⟩⟩
theorem OwnI.any (h : OwnI w base v bs) : ∃ A c, v = .slice A bs.length c ∧ bs.length ≤ c ∧ IntsAt w A bs := by
  rcases h.2 with ⟨rfl, h0⟩ | ⟨g, cap, cur, rfl, hg, hh, hn, hcap, hsz, htake⟩
  · exact ⟨none, 0, by rw [h0], by omega, fun hp => by omega⟩
  · refine ⟨_, cap, rfl, hn, fun _ => ⟨g, 0, cur, rfl, hh, fun i x hx => ?_⟩⟩
    have hi := (List.getElem?_eq_some_iff.1 hx).1
    have e : (bs.map i64v)[i]? = some (i64v x) := by rw [List.getElem?_map, hx]; rfl
    rw [← htake, List.getElem?_take, if_pos (by omega)] at e
    rw [Nat.zero_add, ← Array.getElem?_toList]
    exact e
theorem OwnI.alloc (h : OwnI w base v bs) (o : Obj) : OwnI (w.alloc o) base v bs := World.ownsRow.alloc h o
theorem OwnI.lt (h : OwnI w base v bs) : ∀ g, v.ownBlock = some g → base ≤ g ∧ g < w.heap.size := World.ownsRow.lt h
theorem OwnI.kp {B : Nat} (h : OwnI w base v bs) (k : Kp B w w') : OwnI w' base v bs := k.row h (by decide) (by decide)
theorem OwnI.only {F : List Nat} (h : OwnI w base v bs) (k : Only F w w') (hn : ∀ g, v.ownBlock = some g → g ∉ F) : OwnI w' base v bs := k.row h hn
theorem OwnI.base_ {base' : Nat} (h : OwnI w base v bs) (hb : base' ≤ base) : OwnI w base' v bs :=
  ⟨h.1, h.2.imp id fun ⟨g, cap, cur, a1, a2, a3⟩ => ⟨g, cap, cur, a1, Nat.le_trans hb a2, a3⟩⟩
set_option maxRecDepth 100000 in
theorem run_append_ints (base : Nat) (ty : TypeId) (v : Value) (k : List Nat) (hown : OwnI w base v k) (A : Option Addr) (m c : Nat) (l : List Nat) (hl : l.length = m) (hA : IntsAt w A l) (hr : k.length + m ≤ 100000) (hbase : base ≤ w.heap.size) :
    ∃ v' w', (Builtin.append_ #[59, 59] ty #[v, .slice A m c]).run Try.prog w = .ok v' w' ∧ OwnI w' base v' (k ++ l) ∧ w.grownBy w' v.ownBlock ∧ (v'.ownBlock = v.ownBlock ∨ v'.ownBlock = some w.heap.size) := by
  obtain ⟨i, hi, hz, hsize, hby⟩ := info_parts infoI
  rcases A with _ | ad
  · have hm : l = [] := by
      rcases l with _ | ⟨x, l⟩
      · rfl
      · obtain ⟨g, off, cs, h, _⟩ := hA (by simp)
        cases h
    subst hm
    obtain rfl : m = 0 := hl.symm
    refine ⟨v, w, ?_, by rw [List.append_nil]; exact hown, World.grownBy.refl w _, .inl rfl⟩
    rcases hown.2 with ⟨rfl, _⟩ | ⟨g, cap, cur, rfl, _, _, hnc, _⟩
    · simp [Builtin.append_, run_underlying Try.underlying59, sizeOf, typeInfo, hi, Builtin.lenOf, Builtin.firstCells]
    · simp [Builtin.append_, run_underlying Try.underlying59, sizeOf, typeInfo, hi, Builtin.lenOf, Builtin.firstCells, hnc, storeCells]
  · obtain ⟨v', w', hrun, h2, h3, _, h5⟩ := run_append_own_at (P := Try.prog) w base 59 ty 3 i (.int .i64 0) 1 8 Try.underlying59 hi hz hsize hby rfl (by omega) v k.length (k.map i64v) hown ad m c (l.map i64v) (by simp [hl])
      (fun j u hu => by
        rw [List.getElem?_map] at hu
        obtain ⟨x, hx, rfl⟩ := Option.map_eq_some_iff.1 hu
        have hj := (List.getElem?_eq_some_iff.1 hx).1
        obtain ⟨g, off, cs, e, hh, hc⟩ := hA (by omega)
        cases e
        rw [WideShapes.add_plain, hh.cell]
        exact hc j x hx)
      (fun u hu => by obtain ⟨x, _, rfl⟩ := List.mem_map.1 hu; rfl) (by simp only [maxLen]; omega) (by omega) hbase
    exact ⟨v', w', hrun, by unfold OwnI; rw [List.length_append, List.map_append, hl]; exact h2, h3, h5⟩
set_option maxRecDepth 100000 in
theorem wp_append_ints {o : Oper} {a : Act} {K : Act → World → Prop} {Q : Exit → Act → World → Prop} (s x : Operand)
    (ho : o.op = .call { callee := .builtin .append, args := #[s, x], argTypes := #[59, 59] })
    (base : Nat) (v : Value) (k : List Nat) (hs : a.eval s = v) (hown : OwnI w base v k)
    (A : Option Addr) (m c : Nat) (l : List Nat) (hx : a.eval x = .slice A m c) (hl : l.length = m) (hA : IntsAt w A l) (hr : k.length + m ≤ 100000) (hbase : base ≤ w.heap.size)
    (h : ∀ v' w', OwnI w' base v' (k ++ l) → w.grownBy w' v.ownBlock → (v'.ownBlock = v.ownBlock ∨ v'.ownBlock = some w.heap.size) → K (a.put o.dst v') w') : o.wp Try.prog a w K Q := by
  obtain ⟨v', w', hrun, h2, h3, h4⟩ := run_append_ints base o.type v k hown A m c l hl hA hr hbase
  unfold Oper.wp execOp
  simp only [ho, resolve, invoke, builtin, Sem.run_bind, Sem.run_pure, Result.andThen_ok, List.map_toArray, List.map_cons, List.map_nil, hs, hx, hrun]
  exact h v' w' h2 h3 h4
theorem wpList_append_ints {ops : Array Oper} {rest : List Oper} {o : Oper} {a : Act} {Q : Exit → Act → World → Prop} (hgd : o.guard = none) (s x : Operand)
    (ho : o.op = .call { callee := .builtin .append, args := #[s, x], argTypes := #[59, 59] })
    (base : Nat) (v : Value) (k : List Nat) (hs : a.eval s = v) (hown : OwnI w base v k)
    (A : Option Addr) (m c : Nat) (l : List Nat) (hx : a.eval x = .slice A m c) (hl : l.length = m) (hA : IntsAt w A l) (hr : k.length + m ≤ 100000) (hbase : base ≤ w.heap.size)
    (h : ∀ v' w', OwnI w' base v' (k ++ l) → w.grownBy w' v.ownBlock → (v'.ownBlock = v.ownBlock ∨ v'.ownBlock = some w.heap.size) → wpList Try.prog ops Q rest (a.put o.dst v') w') : wpList Try.prog ops Q (o :: rest) a w :=
  wpList_plain hgd fun _ hK => wp_append_ints s x ho base v k hs hown A m c l hx hl hA hr hbase fun v' w' h2 h3 h4 => hK _ _ (h v' w' h2 h3 h4)
/-- One number, just laid. -/
theorem ints_one (w : World) (x : Nat) (b : Nat) (hb : b = w.heap.size) : IntsAt (w.alloc (.cells #[.int .i64 (x : Int)] 3)) (some ⟨b, 0, none⟩) [x] := fun _ =>
  ⟨b, 0, _, rfl, Held.new _ _ _ hb, fun i y hy => by
    rcases i with _ | i
    · simp at hy
      subst hy
      rfl
    · simp at hy⟩
end

/-- A store in memory, as an interface's value. -/
def sto (p : Nat) : Value := .iface 24 (.pointer (some ⟨p, 0, none⟩))
set_option maxRecDepth 100000 in
theorem meets_read (p : Nat) (w : World) (n : Nat) (hn : n = Try.prog.types.size + Made.depth) : (method n 24 (.pointer (some ⟨p, 0, none⟩)) "Read").run Try.prog w = .ok (96, .pointer (some ⟨p, 0, none⟩)) w := by
  subst hn
  kernel_rfl
set_option maxRecDepth 100000 in
theorem meets_write (p : Nat) (w : World) (n : Nat) (hn : n = Try.prog.types.size + Made.depth) : (method n 24 (.pointer (some ⟨p, 0, none⟩)) "Write").run Try.prog w = .ok (98, .pointer (some ⟨p, 0, none⟩)) w := by
  subst hn
  kernel_rfl
set_option maxRecDepth 100000 in
theorem meets_take (p : Nat) (w : World) (n : Nat) (hn : n = Try.prog.types.size + Made.depth) : (method n 24 (.pointer (some ⟨p, 0, none⟩)) "Take").run Try.prog w = .ok (97, .pointer (some ⟨p, 0, none⟩)) w := by
  subst hn
  kernel_rfl
set_option maxRecDepth 100000 in
theorem meets_free (p : Nat) (w : World) (n : Nat) (hn : n = Try.prog.types.size + Made.depth) : (method n 24 (.pointer (some ⟨p, 0, none⟩)) "Free").run Try.prog w = .ok (94, .pointer (some ⟨p, 0, none⟩)) w := by
  subst hn
  kernel_rfl

set_option maxRecDepth 100000 in
/-- read: a block, whole. -/
theorem bread_any (B : Nat) (w : World) (p n : Nat) (f : Nat → Option KB) (h : MemAt B w p n f) (i : Nat) (k : KB) (hf : f i = some k) :
    Calls Try.prog 34 #[sto p, .int .i64 ((i : Int) + 1)] w fun e w' => ∃ g c, e = .returned (.slice (some ⟨g, 0, none⟩) 512 c) ∧ 512 ≤ c ∧ w.heap.size ≤ g ∧ Bts w' (some ⟨g, 0, none⟩) 512 k.1 ∧ Below w.heap.size w w' := by
  have hk : k.1.length = 512 := by
    obtain ⟨g, ad, h⟩ := h
    exact (h.each i k hf).2.2.1
  have RD := Lib.hid (read_yes B w p n f h i k hf)
  have HK := Lib.hid hk
  clear h hf hk
  unfold sto
  go_enter Try.func34, Try.ntmps34
  go_wp2_with fail
  rw [meets_read]
  case hn => kernel_rfl
  go_simp
  refine RD.out.mono ?_
  rintro e w' ⟨v, rfl, ho, hb⟩
  obtain ⟨g, c, rfl, h1, h2, h3, h4, h5⟩ := ho.form' HK.out (by omega)
  have O := Lib.hid h3
  have BB := Lib.hid hb
  have GC : Hid (512 ≤ c ∧ w.heap.size ≤ g) := ⟨by
    rcases h5.1.2 with ⟨h0, _⟩ | ⟨g', cap, cur, hv, _, _, hn, _⟩
    · cases h0
    · injection hv with _ _ hv3
      rw [hv3, ← HK.out]
      exact hn, h1⟩
  clear ho hb h1 h2 h3 h4 h5 RD
  go_wp2_with (go_at_call 37; refine (heed_ok _).mono ?_; rintro e w2 ⟨rfl, rfl⟩)
  go_ret
  exact ⟨g, c, rfl, GC.out.1, GC.out.2, O.out, BB.out⟩
theorem bts_str_eq {l l' : List Nat} (h : ∀ x ∈ l, x < 256) (h' : ∀ x ∈ l', x < 256) : ((strB l).toList == (strB l').toList) = decide (l = l') := by
  rw [Bool.eq_iff_iff, decide_eq_true_iff, beq_iff_eq]
  constructor
  · intro e
    exact strB_inj h h' (WideShapes.bytes_inj (by rwa [ByteArray.toList_eq, ByteArray.toList_eq] at e))
  · rintro rfl
    rfl
set_option maxRecDepth 100000 in
theorem equal_same (w : World) (A A' : Option Addr) (n c n' c' : Nat) (l : List Nat) (h : Bts w A n l) (h' : Bts w A' n' l) :
    Calls Try.prog 55 #[.slice A n c, .slice A' n' c'] w fun e w' => e = .returned (.bool true) ∧ w = w' := by
  have e1 := h.toStr byteT Try.underlying9 c
  have e2 := h'.toStr byteT Try.underlying9 c'
  have hs : ((strB l).toList == (strB l).toList) = true := by simp
  clear h h'
  go_enter Try.func55, Try.ntmps55
  go_wp2
  go_ret
  exact ⟨rfl, rfl⟩

/-- What is read off a head's block. -/
theorem packB_size (sz h : Nat) (parts : List Nat) (hs : sz < 65536) : unnum (((packB sz h parts).drop 4).take 2) = sz := by
  have e : ((packB sz h parts).drop 4).take 2 = num 2 sz := by
    unfold packB bodyB toldB pad
    rw [List.drop_left' (num_length _ _), List.take_take, Nat.min_eq_left (by omega), List.append_assoc, List.take_left' (num_length _ _)]
  rw [e, unnum_num' (by omega)]
theorem packB_step (sz h : Nat) (parts : List Nat) (k : Nat) (hk : k < parts.length) (hn : parts.length ≤ 96) (hf : (h :: parts).getD (k + 1) 0 < 1099511627776) : unnum (((packB sz h parts).drop (6 + 5 * k)).take 5) = (h :: parts).getD (k + 1) 0 - (h :: parts).getD k 0 := by
  have spl : ∀ m, k + 1 ≤ m → ∃ r, stepsB (h :: parts) m = stepsB (h :: parts) k ++ (num 5 ((h :: parts).getD (k + 1) 0 - (h :: parts).getD k 0) ++ r) := fun m hm => by
    induction m with
    | zero => omega
    | succ m ih =>
      by_cases e : k = m
      · subst e
        exact ⟨[], by rw [stepsB_succ, List.append_nil]⟩
      · obtain ⟨r, hr⟩ := ih (by omega)
        exact ⟨r ++ num 5 ((h :: parts).getD (m + 1) 0 - (h :: parts).getD m 0), by rw [stepsB_succ, hr]; simp only [List.append_assoc]⟩
  obtain ⟨r, hr⟩ := spl parts.length hk
  have e : ((packB sz h parts).drop (6 + 5 * k)).take 5 = num 5 ((h :: parts).getD (k + 1) 0 - (h :: parts).getD k 0) := by
    unfold packB bodyB toldB pad
    rw [hr]
    rw [show 6 + 5 * k = 4 + (2 + 5 * k) by omega, ← List.drop_drop, List.drop_left' (num_length _ _), List.drop_take, List.take_take, Nat.min_eq_left (by omega)]
    rw [show num 2 sz ++ (stepsB (h :: parts) k ++ (num 5 ((h :: parts).getD (k + 1) 0 - (h :: parts).getD k 0) ++ r)) = (num 2 sz ++ stepsB (h :: parts) k) ++ (num 5 ((h :: parts).getD (k + 1) 0 - (h :: parts).getD k 0) ++ r) by simp only [List.append_assoc], List.append_assoc, List.drop_left' (by rw [List.length_append, num_length, stepsB_length]), List.append_assoc, List.take_left' (num_length _ _)]
  rw [e, unnum_num' (by omega)]
end Go.Proofs.Ytlofpbmceipkkaa
