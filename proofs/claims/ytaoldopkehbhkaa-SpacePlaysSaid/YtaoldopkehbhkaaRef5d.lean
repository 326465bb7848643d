/-
  docketref05's Again.
-/
import Derived.Test.YtaoldopkehbhkaaRef5c
namespace Go.Proofs.Ytaoldopkehbhkaa
open Go.RowKit Go.Maps Wal

theorem rown_base {w : World} {base base' : Nat} {e : TypeId} {size n : Nat} {v : Value} {xs : List Value} (h : w.ownsRow base e size v n xs) (hb : base' ≤ base) : w.ownsRow base' e size v n xs := by
  refine ⟨h.1, ?_⟩
  rcases h.2 with h0 | ⟨g, cap, cur, hv, hg, r⟩
  · exact .inl h0
  · exact .inr ⟨g, cap, cur, hv, by omega, r⟩

/-- A row that has been cloned. -/
def Cloned (w : World) (E : TypeId) (size n : Nat) (xs : List Value) (e : Ending) (w' : World) : Prop := ∃ v', e = .returned v' ∧ w'.ownsRow w.heap.size E size v' n xs ∧ Below w.heap.size w w'

theorem rempty_row (w : World) (e : TypeId) (size : Nat) : (w.alloc (.cells #[] e)).ownsRow w.heap.size e size (.slice (some ⟨w.heap.size, 0, none⟩) 0 0) 0 [] := by
  have h := World.ownsRow_lit (base := w.heap.size) (e := e) (size := size) w #[] 0 (Nat.le_refl _) (by simp [maxLen]) (by simp)
  exact h

theorem rown_form {w : World} {base : Nat} {e : TypeId} {size n : Nat} {v : Value} {xs : List Value} (h : w.ownsRow base e size v n xs) : ∃ A c, v = .slice A n c := by
  rcases h.2 with ⟨h1, h2⟩ | ⟨g, cap, cur, h1, _⟩
  · exact ⟨none, 0, by rw [h1, h2]⟩
  · exact ⟨_, cap, h1⟩
/-- A row of n truths, as a list of values. -/
def tvals (t : Nat → Bool) (n : Nat) : List Value := (List.range n).map fun i => .bool (t i)
theorem tvals_at (t : Nat → Bool) (n j : Nat) : (tvals t n)[j]? = if j < n then some (.bool (t j)) else none := by
  unfold tvals
  rw [List.getElem?_map]
  split
  · rename_i h
    rw [List.getElem?_range h]
    rfl
  · rename_i h
    rw [List.getElem?_eq_none (by rw [List.length_range]; omega)]
    rfl
theorem tvals_one (t : Nat → Bool) (n : Nat) : ∀ u ∈ tvals t n, u.oneCell' = true := by
  intro u hu
  unfold tvals at hu
  obtain ⟨i, _, rfl⟩ := List.mem_map.1 hu
  rfl
theorem Truths.own {w : World} {base g n c : Nat} {t : Nat → Bool} (h : w.ownsRow base 4 1 (.slice (some ⟨g, 0, none⟩) n c) n (tvals t n)) : Truths w g n t :=
  ⟨fun i hi => by rw [h.cellAt i (by omega), tvals_at, if_pos hi], fun i _ => h.frozenAt i⟩
theorem news_at {w : World} {q n : Nat} {t : Nat → Bool} (h : Truths w q n t) {j : Nat} {u : Value} (hj : (tvals t n)[j]? = some u) : w.cell? (Addr.add ⟨q, 0, none⟩ j) = some u := by
  rw [tvals_at] at hj
  by_cases hjn : j < n
  · rw [if_pos hjn] at hj
    injection hj with hj
    subst hj
    have h2 := h.at_ j hjn
    unfold Addr.add
    by_cases e : j = 0
    · subst e
      rw [if_pos rfl]
      exact h2
    · rw [if_neg e]
      show w.cell? ⟨q, 0 + j, none⟩ = _
      rw [Nat.zero_add]
      exact h2
  · rw [if_neg hjn] at hj
    cases hj
/-- append(v, m.Now...) at a step of a region that draws its order. -/
theorem step_append_truths (w : World) {ops : Array Oper} {o : Oper} {a : Act} {K : Act → World → Prop} {Q : Exit → Act → World → Prop} {E : Prop} (hgd : o.guard = none) (s x : Operand)
    (ho : o.op = .call { callee := .builtin .append, args := #[s, x], argTypes := #[44, 44] })
    (base : Nat) (v : Value) (m : Nat) (xs : List Value) (hs : a.eval s = v) (hown : w.ownsRow base 4 1 v m xs)
    (q c n : Nat) (t : Nat → Bool) (hx : a.eval x = .slice (some ⟨q, 0, none⟩) n c) (hsrc : Truths w q n t)
    (hn : m + n ≤ 4096) (hbase : base ≤ w.heap.size)
    (h : ∀ v' w', w'.ownsRow base 4 1 v' (m + n) (xs ++ tvals t n) → w.grownBy w' v.ownBlock → (v'.ownBlock = v.ownBlock ∨ v'.ownBlock = some w.heap.size) → K (a.put o.dst v') w') :
    if Region.wanted o (yielded ops a.tmps) = true then Oper.wp Try.prog o a w K Q else E := by
  have hw : Region.wanted o (yielded ops a.tmps) = true := by simp [Region.wanted, hgd]
  rw [if_pos hw]
  obtain ⟨i0, hi, hz0, hz1, hz2⟩ := info_parts rinfoB
  obtain ⟨v', w', hr, h2, h3, _, h5⟩ := run_append_own_at (P := Try.prog) (w := w) base 44 o.type 4 i0 (.bool false) 1 1 Try.underlying44 hi hz0 hz1 hz2 rfl (by decide) v m xs hown ⟨q, 0, none⟩ n c (tvals t n) (by unfold tvals; simp) (fun j u hj => by
    exact news_at hsrc hj) (tvals_one t n) (by simp only [maxLen]; omega) (by omega) hbase
  unfold Oper.wp execOp
  simp only [ho, resolve, invoke, builtin, Sem.run_bind, Sem.run_pure, Result.andThen_ok, List.map_toArray, List.map_cons, List.map_nil, hs, hx, hr]
  exact h v' w' h2 h3 h5

/-- Within Again: what has been made so far. -/
structure AInv (w X : World) (x1 x2 : Option (Value × Nat × List Value)) : Prop where
  below : Below w.heap.size w X
  r1 : ∀ t, x1 = some t → X.ownsRow w.heap.size 4 1 t.1 t.2.1 t.2.2
  r2 : ∀ t, x2 = some t → X.ownsRow w.heap.size 4 1 t.1 t.2.1 t.2.2
  ap : ∀ t s, x1 = some t → x2 = some s → ∀ g, t.1.ownBlock = some g → s.1.ownBlock ≠ some g

section
variable {w X Y : World} {x1 x2 : Option (Value × Nat × List Value)} {v v' : Value} {n m : Nat} {xs ys : List Value}
theorem AInv.le (h : AInv w X x1 x2) : w.heap.size ≤ X.heap.size := h.below.size
theorem AInv.swap (h : AInv w X x1 x2) : AInv w X x2 x1 := ⟨h.below, h.r2, h.r1, fun t s ht hs g hg e => h.ap s t hs ht g e hg⟩
theorem AInv.row1 (h : AInv w X (some (v, n, xs)) x2) : X.ownsRow w.heap.size 4 1 v n xs := h.r1 _ rfl
theorem AInv.row2 (h : AInv w X x1 (some (v, n, xs))) : X.ownsRow w.heap.size 4 1 v n xs := h.r2 _ rfl
theorem AInv.alloc1 (h : AInv w X none x2) : AInv w (X.alloc (.cells #[] 4)) (some (.slice (some ⟨X.heap.size, 0, none⟩) 0 0, 0, [])) x2 := by
  refine ⟨h.below.alloc h.le _, fun t ht => ?_, fun t ht => (h.r2 t ht).alloc _, fun t s ht hs g hg e => ?_⟩
  · injection ht with ht
    subst ht
    exact rown_base (rempty_row X 4 1) h.le
  · injection ht with ht
    subst ht
    have h1 : X.heap.size = g := by simpa [Value.ownBlock] using hg
    have := (h.r2 s hs).lt g e
    omega
theorem AInv.alloc2 (h : AInv w X x1 none) : AInv w (X.alloc (.cells #[] 4)) x1 (some (.slice (some ⟨X.heap.size, 0, none⟩) 0 0, 0, [])) := h.swap.alloc1.swap
theorem AInv.app1 (h : AInv w X (some (v, n, xs)) x2) (hown : Y.ownsRow w.heap.size 4 1 v' (n + m) (xs ++ ys)) (hg : X.grownBy Y v.ownBlock) (hat : v'.ownBlock = v.ownBlock ∨ v'.ownBlock = some X.heap.size) :
    AInv w Y (some (v', n + m, xs ++ ys)) x2 := by
  have k2 : ∀ t, x2 = some t → Y.ownsRow w.heap.size 4 1 t.1 t.2.1 t.2.2 := fun t ht => (h.r2 t ht).kept hg (by
    cases hv : t.1.ownBlock with
    | none => exact .inl rfl
    | some g => exact .inr (fun e => h.ap _ t rfl ht g (by rw [← e]) hv))
  refine ⟨h.below.grown hg h.le (fun k hk => (h.row1.lt k hk).1), fun t ht => ?_, k2, fun t s ht hs g hgg e => ?_⟩
  · injection ht with ht
    subst ht
    exact hown
  · injection ht with ht
    subst ht
    rcases hat with h1 | h1
    · exact h.ap _ s rfl hs g (h1.symm.trans hgg) e
    · have h2 : X.heap.size = g := by
        have := h1.symm.trans hgg
        injection this
      have := (h.r2 s hs).lt g e
      omega
theorem AInv.app2 (h : AInv w X x1 (some (v, n, xs))) (hown : Y.ownsRow w.heap.size 4 1 v' (n + m) (xs ++ ys)) (hg : X.grownBy Y v.ownBlock) (hat : v'.ownBlock = v.ownBlock ∨ v'.ownBlock = some X.heap.size) :
    AInv w Y x1 (some (v', n + m, xs ++ ys)) := (h.swap.app1 hown hg hat).swap
/-- What Again answers. -/
def RAgain (w : World) (n : Nat) (t : Nat → Bool) (e : Ending) (w' : World) : Prop := ∃ g q r c d, e = .returned (.pointer (some ⟨g, 0, none⟩)) ∧ RMap w' g q r n c d t t ∧ w.heap.size ≤ g ∧ w.heap.size ≤ q ∧ w.heap.size ≤ r ∧ Below w.heap.size w w'
theorem row_slice {w : World} {base n : Nat} {v : Value} {xs : List Value} (h : w.ownsRow base 4 1 v n xs) (hn : 2 ≤ n) : ∃ g c, v = .slice (some ⟨g, 0, none⟩) n c ∧ n ≤ c := by
  rcases h.2 with ⟨_, h0⟩ | ⟨g, cap, _, hv, _, _, hc, _⟩
  · omega
  · exact ⟨g, cap, hv, hc⟩
theorem again_done {w X : World} {t : Nat → Bool} {n : Nat} {va vb : Value} (hn : 2 ≤ n) (h : AInv w X (some (va, 0 + n, [] ++ tvals t n)) (some (vb, 0 + n, [] ++ tvals t n))) (o : Array Value) (ho : o = #[va, vb]) :
    RAgain w n t (.returned (.pointer (some ⟨X.heap.size, 0, none⟩))) (X.alloc (.cells o 46)) := by
  subst ho
  have h1 := h.row1
  have h2 := h.row2
  rw [Nat.zero_add, List.nil_append] at h1 h2
  obtain ⟨q, c, rfl, hc⟩ := row_slice h1 hn
  obtain ⟨r, d, rfl, _⟩ := row_slice h2 hn
  have l1 := h1.lt q rfl
  have l2 := h2.lt r rfl
  refine ⟨_, q, r, c, d, rfl, ⟨Held.new _ _ _ rfl, (Truths.own (h1.alloc _)), (Truths.own (h2.alloc _)), by omega, by omega, fun e => h.ap _ _ rfl rfl q rfl (by rw [e]; rfl), hc⟩, h.le, l1.1, l2.1, h.below.alloc h.le _⟩
end

set_option maxRecDepth 100000 in
set_option maxHeartbeats 4000000 in
theorem ragain_any (w : World) (g q r n c d : Nat) (t o : Nat → Bool) (h : RMap w g q r n c d t o) (hn2 : 2 ≤ n) (hn : n ≤ 4096) :
    Calls Try.prog 17 #[.pointer (some ⟨g, 0, none⟩)] w (RAgain w n t) := by
  have c0 : w.cell? ⟨g, 0, none⟩ = some (.slice (some ⟨q, 0, none⟩) n c) := by
    have := h.blk.cell 0
    exact this
  have AT : ∀ X, Below w.heap.size w X → Hid (Truths X q n t) := fun X hX => (h.under hX).now
  have AC : ∀ X, Below w.heap.size w X → Hid (X.cell? ⟨g, 0, none⟩ = some (.slice (some ⟨q, 0, none⟩) n c)) := fun X hX => by
    have := (h.under hX).blk.cell 0
    exact this
  have AC2 : ∀ X o, Below w.heap.size w X → Hid ((X.alloc o).cell? ⟨g, 0, none⟩ = some (.slice (some ⟨q, 0, none⟩) n c)) := fun X o hX => AC _ (hX.alloc hX.size _)
  have KN : Hid (0 + n ≤ 4096) := by show _ ≤ _; omega
  clear h
  go_enter Try.func17, Try.ntmps17
  go_wp2_with fail
  refine wp_region_noPanic ?_
  refine wp_region_held_drew (S := fun X => X.cell? ⟨g, 0, none⟩ = some (.slice (some ⟨q, 0, none⟩) n c)) (by kernel_rfl) c0 (fun hHeld => ?_)
  have C0 : Hid (AInv w w.drew none none) := ⟨(Below.refl _ _).drew, fun t ht => (by cases ht), fun t ht => (by cases ht), fun t s ht => (by cases ht)⟩
  generalize w.drew = w0 at *
  refine take_ (i := 1) (v := ?_) 4 rfl rfl (by kernel_rfl) (by kernel_rfl) (by kernel_rfl) (fun _ _ _ h => h) (Or.inl ⟨by rfl, ?_⟩) (by assumption) ?_
  rotate_left
  · (intro wS hSw; (try dsimp only at hSw); go_simp; try with_reducible rfl)
  simp only [Act.put, List.setIfInBounds_toArray, List.set_cons_zero, List.set_cons_succ]
  refine take_ (i := 2) (v := ?_) 5 rfl rfl (by kernel_rfl) (by kernel_rfl) (by kernel_rfl) (fun _ _ _ h => h) (Or.inl ⟨by rfl, ?_⟩) (by assumption) ?_
  rotate_left
  · (intro wS hSw; (try dsimp only at hSw); go_simp; try with_reducible rfl)
  simp only [Act.put, List.setIfInBounds_toArray, List.set_cons_zero, List.set_cons_succ]
  refine take_ (i := 3) (v := ?_) 6 rfl rfl (by kernel_rfl) (by kernel_rfl) (by kernel_rfl) (fun _ _ _ h => h) (Or.inl ⟨by rfl, ?_⟩) (by assumption) ?_
  rotate_left
  · (intro wS hSw; (try dsimp only at hSw); go_simp; try with_reducible rfl)
  simp only [Act.put, List.setIfInBounds_toArray, List.set_cons_zero, List.set_cons_succ]
  refine take_ (i := 4) (v := ?_) 7 rfl rfl (by kernel_rfl) (by kernel_rfl) (by kernel_rfl) (fun _ _ _ h => h) (Or.inl ⟨by rfl, ?_⟩) (by assumption) ?_
  rotate_left
  · (intro wS hSw; (try dsimp only at hSw); go_simp; try with_reducible rfl)
  simp only [Act.put, List.setIfInBounds_toArray, List.set_cons_zero, List.set_cons_succ]
  refine take_ (i := 7) (v := ?_) 10 rfl rfl (by kernel_rfl) (by kernel_rfl) (by kernel_rfl) (fun _ _ _ h => h) (Or.inl ⟨by rfl, ?_⟩) (by assumption) ?_
  rotate_left
  · (intro wS hSw; (try dsimp only at hSw); go_simp; try with_reducible rfl)
  simp only [Act.put, List.setIfInBounds_toArray, List.set_cons_zero, List.set_cons_succ]
  refine take_ (i := 8) (v := ?_) 11 rfl rfl (by kernel_rfl) (by kernel_rfl) (by kernel_rfl) (fun _ _ _ h => h) (Or.inl ⟨by rfl, ?_⟩) (by assumption) ?_
  rotate_left
  · (intro wS hSw; (try dsimp only at hSw); go_simp; try with_reducible rfl)
  simp only [Act.put, List.setIfInBounds_toArray, List.set_cons_zero, List.set_cons_succ]
  refine take_ (i := 9) (v := ?_) 12 rfl rfl (by kernel_rfl) (by kernel_rfl) (by kernel_rfl) (fun _ _ _ h => h) (Or.inl ⟨by rfl, ?_⟩) (by assumption) ?_
  rotate_left
  · (intro wS hSw; (try dsimp only at hSw); go_simp; try with_reducible rfl)
  simp only [Act.put, List.setIfInBounds_toArray, List.set_cons_zero, List.set_cons_succ]
  refine take_ (i := 10) (v := ?_) 13 rfl rfl (by kernel_rfl) (by kernel_rfl) (by kernel_rfl) (fun _ _ _ h => h) (Or.inl ⟨by rfl, ?_⟩) (by assumption) ?_
  rotate_left
  · (intro wS hSw; (try dsimp only at hSw); go_simp; try with_reducible rfl)
  simp only [Act.put, List.setIfInBounds_toArray, List.set_cons_zero, List.set_cons_succ]
  refine wpAnyH_ready (rs := [0,6]) (by kernel_rfl) (by simp) ?_
  refine AllReadyH.cons rfl (fun K hK => ?_) (AllReadyH.cons rfl (fun K hK => ?_) AllReadyH.nil)
  · skip
    go_simp
    have C0_ := Lib.hid (C0.out.alloc1)
    refine hK.out _ _ (AC _ C0_.out.below).out (fun hHeld => ?_)
    clear hK K
    refine wpAnyH_ready (rs := [5,6]) (by kernel_rfl) (by simp) ?_
    refine AllReadyH.cons rfl (fun K hK => ?_) (AllReadyH.cons rfl (fun K hK => ?_) AllReadyH.nil)
    · skip
      refine step_append_truths _ rfl (.tmp 3) (.tmp 7) rfl w.heap.size _ 0 [] (by first | (simp [Act.eval]; done) | simp [Act.eval, Act.put]) C0_.out.row1 q c n t (by first | (simp [Act.eval]; done) | simp [Act.eval, Act.put]) (AT _ C0_.out.below).out KN.out C0_.out.le ?_
      intro v0_5_ w0_5_ hown hgrow hat
      have C0_5_ := Lib.hid (C0_.out.app1 hown hgrow hat)
      obtain ⟨_, _, rfl⟩ := rown_form hown
      clear hown hgrow hat
      refine hK.out _ _ (AC _ C0_5_.out.below).out (fun hHeld => ?_)
      clear hK K
      refine wpAnyH_ready (rs := [6]) (by kernel_rfl) (by simp) ?_
      refine AllReadyH.cons rfl (fun K hK => ?_) AllReadyH.nil
      go_simp
      have C0_5_6_ := Lib.hid (C0_5_.out.alloc2)
      refine hK.out _ _ (AC _ C0_5_6_.out.below).out (fun hHeld => ?_)
      clear hK K
      refine wpAnyH_ready (rs := [11]) (by kernel_rfl) (by simp) ?_
      refine AllReadyH.cons rfl (fun K hK => ?_) AllReadyH.nil
      refine step_append_truths _ rfl (.tmp 9) (.tmp 13) rfl w.heap.size _ 0 [] (by first | (simp [Act.eval]; done) | simp [Act.eval, Act.put]) C0_5_6_.out.row2 q c n t (by first | (simp [Act.eval]; done) | simp [Act.eval, Act.put]) (AT _ C0_5_6_.out.below).out KN.out C0_5_6_.out.le ?_
      intro v0_5_6_11_ w0_5_6_11_ hown hgrow hat
      have C0_5_6_11_ := Lib.hid (C0_5_6_.out.app2 hown hgrow hat)
      obtain ⟨_, _, rfl⟩ := rown_form hown
      clear hown hgrow hat
      refine hK.out _ _ (AC _ C0_5_6_11_.out.below).out (fun hHeld => ?_)
      clear hK K
      refine take_ (i := 12) (v := ?_) 15 rfl rfl (by kernel_rfl) (by kernel_rfl) (by kernel_rfl) (fun _ _ _ h => h) (Or.inl ⟨by rfl, ?_⟩) (by assumption) ?_
      rotate_left
      · (intro wS hSw; (try dsimp only at hSw); go_simp; try with_reducible rfl)
      simp only [Act.put, List.setIfInBounds_toArray]
      refine one_ (i := 13) _ (by kernel_rfl) rfl (fun K hK => ?_)
      go_simp
      refine hK.out _ _ (AC2 _ _ C0_5_6_11_.out.below).out (fun hHeld => ?_)
      clear hK K
      refine take_ (i := 14) (v := ?_) 2 rfl rfl (by kernel_rfl) (by kernel_rfl) (by kernel_rfl) (fun _ _ _ h => h) (Or.inl ⟨by rfl, ?_⟩) (by assumption) ?_
      rotate_left
      · (intro wS hSw; (try dsimp only at hSw); go_simp; try with_reducible rfl)
      simp only [Act.put, List.setIfInBounds_toArray, List.set_cons_zero, List.set_cons_succ]
      refine wpAnyH_done (by kernel_rfl) ?_ _
      refine NoPanic.normal ?_
      have FIN := Lib.hid (again_done hn2 C0_5_6_11_.out)
      go_wp2_with fail
      go_ret
      exact FIN.out _ (by simp only [Nat.zero_add])
    · skip
      go_simp
      have C0_6_ := Lib.hid (C0_.out.alloc2)
      refine hK.out _ _ (AC _ C0_6_.out.below).out (fun hHeld => ?_)
      clear hK K
      refine wpAnyH_ready (rs := [5]) (by kernel_rfl) (by simp) ?_
      refine AllReadyH.cons rfl (fun K hK => ?_) AllReadyH.nil
      refine step_append_truths _ rfl (.tmp 3) (.tmp 7) rfl w.heap.size _ 0 [] (by first | (simp [Act.eval]; done) | simp [Act.eval, Act.put]) C0_6_.out.row1 q c n t (by first | (simp [Act.eval]; done) | simp [Act.eval, Act.put]) (AT _ C0_6_.out.below).out KN.out C0_6_.out.le ?_
      intro v0_6_5_ w0_6_5_ hown hgrow hat
      have C0_6_5_ := Lib.hid (C0_6_.out.app1 hown hgrow hat)
      obtain ⟨_, _, rfl⟩ := rown_form hown
      clear hown hgrow hat
      refine hK.out _ _ (AC _ C0_6_5_.out.below).out (fun hHeld => ?_)
      clear hK K
      refine wpAnyH_ready (rs := [11]) (by kernel_rfl) (by simp) ?_
      refine AllReadyH.cons rfl (fun K hK => ?_) AllReadyH.nil
      refine step_append_truths _ rfl (.tmp 9) (.tmp 13) rfl w.heap.size _ 0 [] (by first | (simp [Act.eval]; done) | simp [Act.eval, Act.put]) C0_6_5_.out.row2 q c n t (by first | (simp [Act.eval]; done) | simp [Act.eval, Act.put]) (AT _ C0_6_5_.out.below).out KN.out C0_6_5_.out.le ?_
      intro v0_6_5_11_ w0_6_5_11_ hown hgrow hat
      have C0_6_5_11_ := Lib.hid (C0_6_5_.out.app2 hown hgrow hat)
      obtain ⟨_, _, rfl⟩ := rown_form hown
      clear hown hgrow hat
      refine hK.out _ _ (AC _ C0_6_5_11_.out.below).out (fun hHeld => ?_)
      clear hK K
      refine take_ (i := 12) (v := ?_) 15 rfl rfl (by kernel_rfl) (by kernel_rfl) (by kernel_rfl) (fun _ _ _ h => h) (Or.inl ⟨by rfl, ?_⟩) (by assumption) ?_
      rotate_left
      · (intro wS hSw; (try dsimp only at hSw); go_simp; try with_reducible rfl)
      simp only [Act.put, List.setIfInBounds_toArray]
      refine one_ (i := 13) _ (by kernel_rfl) rfl (fun K hK => ?_)
      go_simp
      refine hK.out _ _ (AC2 _ _ C0_6_5_11_.out.below).out (fun hHeld => ?_)
      clear hK K
      refine take_ (i := 14) (v := ?_) 2 rfl rfl (by kernel_rfl) (by kernel_rfl) (by kernel_rfl) (fun _ _ _ h => h) (Or.inl ⟨by rfl, ?_⟩) (by assumption) ?_
      rotate_left
      · (intro wS hSw; (try dsimp only at hSw); go_simp; try with_reducible rfl)
      simp only [Act.put, List.setIfInBounds_toArray, List.set_cons_zero, List.set_cons_succ]
      refine wpAnyH_done (by kernel_rfl) ?_ _
      refine NoPanic.normal ?_
      have FIN := Lib.hid (again_done hn2 C0_6_5_11_.out)
      go_wp2_with fail
      go_ret
      exact FIN.out _ (by simp only [Nat.zero_add])
  · skip
    go_simp
    have C6_ := Lib.hid (C0.out.alloc2)
    refine hK.out _ _ (AC _ C6_.out.below).out (fun hHeld => ?_)
    clear hK K
    refine wpAnyH_ready (rs := [0]) (by kernel_rfl) (by simp) ?_
    refine AllReadyH.cons rfl (fun K hK => ?_) AllReadyH.nil
    go_simp
    have C6_0_ := Lib.hid (C6_.out.alloc1)
    refine hK.out _ _ (AC _ C6_0_.out.below).out (fun hHeld => ?_)
    clear hK K
    refine wpAnyH_ready (rs := [5]) (by kernel_rfl) (by simp) ?_
    refine AllReadyH.cons rfl (fun K hK => ?_) AllReadyH.nil
    refine step_append_truths _ rfl (.tmp 3) (.tmp 7) rfl w.heap.size _ 0 [] (by first | (simp [Act.eval]; done) | simp [Act.eval, Act.put]) C6_0_.out.row1 q c n t (by first | (simp [Act.eval]; done) | simp [Act.eval, Act.put]) (AT _ C6_0_.out.below).out KN.out C6_0_.out.le ?_
    intro v6_0_5_ w6_0_5_ hown hgrow hat
    have C6_0_5_ := Lib.hid (C6_0_.out.app1 hown hgrow hat)
    obtain ⟨_, _, rfl⟩ := rown_form hown
    clear hown hgrow hat
    refine hK.out _ _ (AC _ C6_0_5_.out.below).out (fun hHeld => ?_)
    clear hK K
    refine wpAnyH_ready (rs := [11]) (by kernel_rfl) (by simp) ?_
    refine AllReadyH.cons rfl (fun K hK => ?_) AllReadyH.nil
    refine step_append_truths _ rfl (.tmp 9) (.tmp 13) rfl w.heap.size _ 0 [] (by first | (simp [Act.eval]; done) | simp [Act.eval, Act.put]) C6_0_5_.out.row2 q c n t (by first | (simp [Act.eval]; done) | simp [Act.eval, Act.put]) (AT _ C6_0_5_.out.below).out KN.out C6_0_5_.out.le ?_
    intro v6_0_5_11_ w6_0_5_11_ hown hgrow hat
    have C6_0_5_11_ := Lib.hid (C6_0_5_.out.app2 hown hgrow hat)
    obtain ⟨_, _, rfl⟩ := rown_form hown
    clear hown hgrow hat
    refine hK.out _ _ (AC _ C6_0_5_11_.out.below).out (fun hHeld => ?_)
    clear hK K
    refine take_ (i := 12) (v := ?_) 15 rfl rfl (by kernel_rfl) (by kernel_rfl) (by kernel_rfl) (fun _ _ _ h => h) (Or.inl ⟨by rfl, ?_⟩) (by assumption) ?_
    rotate_left
    · (intro wS hSw; (try dsimp only at hSw); go_simp; try with_reducible rfl)
    simp only [Act.put, List.setIfInBounds_toArray]
    refine one_ (i := 13) _ (by kernel_rfl) rfl (fun K hK => ?_)
    go_simp
    refine hK.out _ _ (AC2 _ _ C6_0_5_11_.out.below).out (fun hHeld => ?_)
    clear hK K
    refine take_ (i := 14) (v := ?_) 2 rfl rfl (by kernel_rfl) (by kernel_rfl) (by kernel_rfl) (fun _ _ _ h => h) (Or.inl ⟨by rfl, ?_⟩) (by assumption) ?_
    rotate_left
    · (intro wS hSw; (try dsimp only at hSw); go_simp; try with_reducible rfl)
    simp only [Act.put, List.setIfInBounds_toArray, List.set_cons_zero, List.set_cons_succ]
    refine wpAnyH_done (by kernel_rfl) ?_ _
    refine NoPanic.normal ?_
    have FIN := Lib.hid (again_done hn2 C6_0_5_11_.out)
    go_wp2_with fail
    go_ret
    exact FIN.out _ (by simp only [Nat.zero_add])
end Go.Proofs.Ytaoldopkehbhkaa
