/-
  btree: what a change under way turns; pieces. · btree: cut. · btree: a change under way: take.
-/
import Derived.Test.YtnogmgnbhcmajaaDoorQA36
namespace Go.Proofs.YtnogmgnbhcmajaaDoor
open Go.RowKit Wal

/-- A change under way turns the store's blocks and the change's own from B on, and rows of numbers from C on; nothing else of what was there. -/
structure KpC (B C : Nat) (w w' : World) : Prop where
  os : w'.os = w.os
  tape : w'.tape = w.tape
  output : w'.output = w.output
  size : w.heap.size ≤ w'.heap.size
  block : ∀ k, k < w.heap.size → (∀ cs t m, w.heap[k]? = some (.cells cs t m) → ¬ ((B ≤ k ∧ t ∈ [56, 59, 94]) ∨ (C ≤ k ∧ t = 3))) → w'.heap[k]? = w.heap[k]?
section
variable {B C : Nat} {w w' w'' : World}
theorem KpC.refl (B C : Nat) (w : World) : KpC B C w w := ⟨rfl, rfl, rfl, Nat.le_refl _, fun _ _ _ => rfl⟩
theorem KpC.trans (h : KpC B C w w') (k : KpC B C w' w'') : KpC B C w w'' := ⟨k.os.trans h.os, k.tape.trans h.tape, k.output.trans h.output, Nat.le_trans h.size k.size, fun i hi hf => by
  have e := h.block i hi hf
  exact (k.block i (Nat.lt_of_lt_of_le hi h.size) (fun cs t m hx => hf cs t m (by rw [← e]; exact hx))).trans e⟩
theorem KpC.under (h : Below w.heap.size w w') : KpC B C w w' := ⟨h.os, h.tape, h.output, h.size, fun i hi _ => h.block i hi⟩
theorem KpC.held {q : Nat} {t : TypeId} {cs : Array Value} (h : KpC B C w w') (k : Held w q t cs) (h1 : t ∉ [56, 59, 94]) (h2 : t = 3 → q < C) : Held w' q t cs :=
  (h.block q k.lt (fun cs' t' m' hh => by
    have e := k.symm.trans hh
    injection e with e
    injection e with _ e2 _
    subst e2
    rintro (⟨_, h⟩ | ⟨h, e⟩)
    · exact h1 h
    · have := h2 e; omega)).trans k
theorem KpC.row {base : Nat} {e : TypeId} {size : Nat} {v : Value} {m : Nat} {xs : List Value} (h : KpC B C w w') (ho : w.ownsRow base e size v m xs) (h1 : e ∉ [56, 59, 94]) (h2 : e ≠ 3) : w'.ownsRow base e size v m xs :=
  ⟨ho.1, ho.2.imp id fun ⟨g, cap, cur, a1, a2, a3, r⟩ => ⟨g, cap, cur, a1, a2, h.held (t := e) a3 h1 (fun e => absurd e h2), r⟩⟩
theorem KpC.of_kp (h : Kp B w w') : KpC B C w w' := ⟨h.os, h.tape, h.output, h.size, fun i hi hf => h.block i hi (by
  rcases Nat.lt_or_ge i B with hb | hb
  · exact .inl hb
  · refine .inr fun cs t m hx => ?_
    have := hf cs t m hx
    refine ⟨fun e => this (.inl ⟨hb, by simp [e]⟩), fun e => this (.inl ⟨hb, by simp [e]⟩)⟩)⟩
/-- A store into the change's own block. -/
theorem KpC.set_ {q : Nat} {cs : Array Value} (h : KpC B C w w') (k : Held w' q 94 cs) (hq : B ≤ q) (i : Nat) (v : Value) : KpC B C w (w'.setCell ⟨q, i, none⟩ v) :=
  h.trans ⟨rfl, rfl, rfl, by simp [World.setCell], fun j _ hf => Below.heap_setCell _ _ _ _ (fun e => by
    have e : j = q := e
    subst e
    exact hf _ _ _ k (.inl ⟨hq, by simp⟩))⟩
/-- An append to a row of numbers. -/
theorem KpC.grown {v : Value} {xs : List Nat} (h : KpC B C w w') (ho : OwnN w' C v xs) (hg : w'.grownBy w'' v.ownBlock) : KpC B C w w'' :=
  h.trans ⟨hg.os, hg.tape, hg.output, hg.size, fun j hj hf => hg.block j hj (fun ej => by
    rcases ho.2 with ⟨rfl, _⟩ | ⟨g, cap, cur, rfl, hgb, hh, _⟩
    · cases ej
    · have : g = j := by simpa [Value.ownBlock] using ej.symm
      subst this
      exact hf _ _ _ hh (.inr ⟨hgb, rfl⟩))⟩
theorem KpC.tree {t p root : Nat} (h : KpC B C w w') (k : TreeO w t p root) : TreeO w' t p root := h.held k (by decide) (fun e => absurd e (by decide))
theorem KpC.en {base : Nat} {v : Value} {l : List En} (h : KpC B C w w') (k : OwnEn w base v l) : OwnEn w' base v l := h.row k (by decide) (by decide)
end
/-- A change, behind a pointer. -/
def ChangeO (w : World) (cb t : Nat) (key : List Nat) (ed tv ov : Value) : Prop := Held w cb 94 #[.pointer (some ⟨t, 0, none⟩), .string (strB key), ed, tv, ov]
theorem ChangeO.below {w w' : World} {cb t : Nat} {key : List Nat} {ed tv ov : Value} (h : ChangeO w cb t key ed tv ov) (k : Below w.heap.size w w') : ChangeO w' cb t key ed tv ov := Held.below h k h.lt
theorem ChangeO.kp {B : Nat} {w w' : World} {cb t : Nat} {key : List Nat} {ed tv ov : Value} (h : ChangeO w cb t key ed tv ov) (k : Kp B w w') : ChangeO w' cb t key ed tv ov := k.held h (by decide) (by decide)
/-- Pieces, each a slice. -/
def PcAt (w : World) (p : List En) (x : Value) : Prop := ∃ A c, x = .slice A p.length c ∧ p.length ≤ c ∧ EAt w A p
def OwnV (w : World) (base : Nat) (v : Value) (xs : List Value) : Prop := w.ownsRow base 74 1 v xs.length xs
theorem infoV : (Tryd.prog.info? 74).map (fun i => (i.zero, i.size, i.bytes)) = some (some (.slice none 0 0), 1, 24) := by kernel_rfl
theorem PcAt.below {w w' : World} {p : List En} {x : Value} (h : PcAt w p x) (k : Below w.heap.size w w') : PcAt w' p x := by
  obtain ⟨A, c, e, h1, h2⟩ := h
  exact ⟨A, c, e, h1, h2.below k⟩
theorem OwnV.below_ {w w' : World} {base : Nat} {v : Value} {xs : List Value} (h : OwnV w base v xs) (k : Below w.heap.size w w') : OwnV w' base v xs := (KpS.under (S := []) (B := 0) k).row h (by simp)
theorem v_own (w : World) (x : Value) (b base : Nat) (hb : b = w.heap.size) (hbase : base ≤ b) : OwnV (w.alloc (.cells #[x] 74)) base (.slice (some ⟨b, 0, none⟩) 1 1) [x] :=
  ⟨rfl, .inr ⟨b, 1, _, rfl, hbase, Held.new w 74 #[x] hb, Nat.le_refl _, by unfold maxLen; omega, rfl, rfl⟩⟩
/-- What cut tells. -/
def CutE (w : World) (A : Option Addr) (es : List En) (x : Ending) (w' : World) : Prop := ∃ v xs, x = .returned v ∧ OwnV w' w.heap.size v xs ∧ xs.length = (pieces es).length ∧ (∀ W : World, EAt W A es → ∀ j (h1 : j < (pieces es).length) (h2 : j < xs.length), PcAt W (pieces es)[j] xs[j]) ∧ Below w.heap.size w w'
set_option maxRecDepth 100000 in
set_option maxHeartbeats 800000 in
theorem cut_small (w : World) (A : Option Addr) (c : Nat) (es : List En) (h : EAt w A es) (hc : es.length ≤ c) (hs : ∀ e ∈ es, sizeE e ≤ 194) (hl : es.length ≤ 1000) (ht : totalE es ≤ 511) :
    Calls Tryd.prog 71 #[.slice A es.length c] w (CutE w A es) := by
  by_cases h0 : es = []
  · subst h0
    go_enter Tryd.func71, Tryd.ntmps71
    go_wp2_with fail
    go_ret
    exact ⟨_, [], rfl, ⟨rfl, .inl ⟨rfl, rfl⟩⟩, rfl, fun _ _ j h1 => absurd h1 (Nat.not_lt_zero j), Below.refl _ _⟩
  · have lp : 0 < es.length := List.length_pos_iff.2 h0
    have g0 : ¬ (es.length : Int) = 0 := by omega
    have TA := Lib.hid (total_any w A c es h (fun e he => Nat.le_trans (hs e he) (by omega)) (by omega))
    have H := Lib.hid h
    have PC : Hid (pieces es = [es]) := by show _ = _; unfold pieces; rw [if_neg h0, if_pos ht]
    have it : (totalE es : Int) ≤ 511 := by omega
    clear h hs h0
    generalize totalE es = t at *
    go_enter Tryd.func71, Tryd.ntmps71
    go_wp2_with fail
    refine TA.out.mono ?_
    rintro x w1 ⟨rfl, hb1⟩
    have B1 := Lib.hid hb1
    have FIN : Hid (∀ r, r = w1.heap.size → CutE w A es (.returned (.slice (some ⟨r, 0, none⟩) 1 1)) (w1.alloc (.cells #[.slice A es.length c] 74))) := fun r hr => by
      refine ⟨_, _, rfl, v_own w1 _ r w.heap.size hr (by rw [hr]; exact hb1.size), by rw [PC.out]; rfl, fun W hW j h1 h2 => ?_, hb1.alloc hb1.size _⟩
      have : j = 0 := by simpa using h2
      subst this
      have e1 : (pieces es)[0] = es := by simp only [PC.out]; rfl
      rw [e1]
      exact ⟨A, c, rfl, hc, hW⟩
    clear hb1 TA
    go_wp2_with fail
    go_ret
    exact FIN.out _ rfl
end Go.Proofs.YtnogmgnbhcmajaaDoor

namespace Go.Proofs.YtnogmgnbhcmajaaDoor
open Go.RowKit Wal

theorem OwnV.any {w : World} {base : Nat} {v : Value} {xs : List Value} (h : OwnV w base v xs) : ∃ A c, v = .slice A xs.length c ∧ xs.length ≤ c ∧ (0 < xs.length → ∃ g off, A = some ⟨g, off, none⟩ ∧ g < w.heap.size ∧ ∀ j u, xs[j]? = some u → w.cell? ⟨g, off + j, none⟩ = some u) := by
  rcases h.2 with ⟨rfl, h0⟩ | ⟨g, cap, cur, rfl, hg, hh, hn, hcap, hsz, htake⟩
  · exact ⟨none, 0, by rw [h0], by omega, fun hp => by omega⟩
  · refine ⟨_, cap, rfl, hn, fun _ => ⟨g, 0, rfl, (Array.getElem?_eq_some_iff.1 hh).1, fun j u hu => ?_⟩⟩
    have hj := (List.getElem?_eq_some_iff.1 hu).1
    rw [← htake, List.getElem?_take, if_pos (by omega)] at hu
    rw [Nat.zero_add, cell_of_row w g j cur _ _ hh, ← Array.getElem?_toList]
    exact hu
set_option maxRecDepth 100000 in
theorem wp_append_v {w : World} {o : Oper} {a : Act} {K : Act → World → Prop} {Q : Exit → Act → World → Prop} (s x : Operand)
    (ho : o.op = .call { callee := .builtin .append, args := #[s, x], argTypes := #[126, 126] })
    (base : Nat) (v : Value) (k : List Value) (hs : a.eval s = v) (hown : OwnV w base v k)
    (ad : Addr) (m c : Nat) (l : List Value) (hx : a.eval x = .slice (some ad) m c) (hl : l.length = m) (hA : ∀ j u, l[j]? = some u → w.cell? (ad.add j) = some u) (h1 : ∀ u ∈ l, u.oneCell' = true) (hr : k.length + m ≤ 1000) (hbase : base ≤ w.heap.size)
    (h : ∀ v' w', OwnV w' base v' (k ++ l) → w.grownBy w' v.ownBlock → K (a.put o.dst v') w') : o.wp Tryd.prog a w K Q := by
  obtain ⟨i, hi, hz, hsize, hby⟩ := info_parts infoV
  obtain ⟨v', w', hrun, h2, h3, _, _⟩ := run_append_own_at (P := Tryd.prog) w base 126 o.type 74 i (.slice none 0 0) 1 24 Tryd.underlying126 hi hz hsize hby rfl (by omega) v k.length k hown ad m c l (by omega) hA h1 (by simp only [maxLen]; omega) (by omega) hbase
  unfold Oper.wp execOp
  simp only [ho, resolve, invoke, builtin, Sem.run_bind, Sem.run_pure, Result.andThen_ok, List.map_toArray, List.map_cons, List.map_nil, hs, hx, hrun]
  exact h v' w' (by unfold OwnV; rw [List.length_append, hl]; exact h2) h3
set_option maxRecDepth 100000 in
set_option maxHeartbeats 3200000 in
theorem cut_any (w : World) (A : Option Addr) (c : Nat) (es : List En) (h : EAt w A es) (hc : es.length ≤ c) (m : Nat) (hm : m ≤ 194) (hs : ∀ e ∈ es, sizeE e ≤ m) (hl : es.length ≤ 1000) (ht : totalE es + m ≤ 1023) :
    Calls Tryd.prog 71 #[.slice A es.length c] w (CutE w A es) := by
  rcases Nat.lt_or_ge 511 (totalE es) with hbig | hsm
  · obtain ⟨p1, p2, _, _⟩ := mid_cuts hbig hs hm
    obtain ⟨q1, q2⟩ := mid_half hbig hs hm
    have hs' : ∀ e ∈ es, sizeE e ≤ 1000 := fun e he => Nat.le_trans (hs e he) (by omega)
    have TA := Lib.hid (total_any w A c es h hs' (by omega))
    have MI := Lib.hid (fun W (hW : Below w.heap.size w W) => middle_any W A c es (h.below hW) hs' (by omega))
    have PC : Hid (pieces es = [es.take (mid es), es.drop (mid es)]) := by
      show _ = _
      unfold pieces
      rw [if_neg (fun e => by rw [e] at hbig; simp [totalE] at hbig), if_neg (by omega)]
    obtain ⟨g, off, rfl, _, _⟩ := h (by omega)
    have l1 : (es.take (mid es)).length = mid es := by rw [List.length_take]; omega
    have l2 : (es.drop (mid es)).length = es.length - mid es := by rw [List.length_drop]
    have C1 := Lib.hid (fun W (hW : Below w.heap.size w W) => cut_small W (some ⟨g, off, none⟩) c (es.take (mid es)) ((h.below hW).take_ _) (by rw [l1]; omega) (fun e he => Nat.le_trans (hs e (List.mem_of_mem_take he)) hm) (by omega) (by omega))
    have C2 := Lib.hid (fun W (hW : Below w.heap.size w W) => cut_small W (some ⟨g, off + mid es * 2, none⟩) (c - mid es) (es.drop (mid es)) ((h.below hW).drop_ _) (by rw [l2]; omega) (fun e he => Nat.le_trans (hs e (List.mem_of_mem_drop he)) hm) (by omega) (by omega))
    have n1 : es.take (mid es) ≠ [] := fun e => by rw [e] at l1; simp at l1; omega
    have n2 : es.drop (mid es) ≠ [] := fun e => by rw [e] at l2; simp at l2; omega
    have P1 : Hid (pieces (es.take (mid es)) = [es.take (mid es)]) := by show _ = _; unfold pieces; rw [if_neg n1, if_pos (by omega)]
    have P2 : Hid (pieces (es.drop (mid es)) = [es.drop (mid es)]) := by show _ = _; unfold pieces; rw [if_neg n2, if_pos (by omega)]
    have L1 := Lib.hid l1
    have L2 := Lib.hid l2
    rw [l1] at C1
    rw [l2] at C2
    have g0 : ¬ (es.length : Int) = 0 := by omega
    have g1 : ¬ ((totalE es : Nat) : Int) ≤ 511 := by omega
    have g2 : ((mid es : Nat) : Int) ≤ (es.length : Int) := by omega
    have g3 : mid es ≤ es.length := by omega
    have g4 : ¬ c = mid es := by omega
    have g5 : mid es ≤ c := by omega
    have g6 : (0 : Int) ≤ ((mid es : Nat) : Int) := by omega
    have HH := Lib.hid h
    clear h hs hs' n1 n2 l1 l2 q1 q2 hbig
    generalize ht' : totalE es = t at *
    clear ht' ht
    generalize hmid : mid es = mi at *
    have HMI := Lib.hid hmid
    clear hmid
    go_enter Tryd.func71, Tryd.ntmps71
    go_wp2_with fail
    refine TA.out.mono ?_
    rintro x w1 ⟨rfl, hb1⟩
    have B1 := Lib.hid hb1
    clear hb1 TA
    go_wp2_with fail
    refine (MI.out _ B1.out).mono ?_
    rintro x w2 ⟨rfl, hb2⟩
    have B2 : Hid (Below w.heap.size w w2) := B1.out.trans (hb2.mono B1.out.size)
    clear hb2 MI
    go_wp2_with fail
    refine wp_region_noPanic ?_
    refine wp_region_held_drew (S := fun _ => True) (by kernel_rfl) trivial (fun hHeld => ?_)
    refine take_ (i := 0) (v := ?_) 16 rfl rfl (by kernel_rfl) (by kernel_rfl) (by kernel_rfl) (fun _ _ _ h => h) (Or.inl ⟨by rfl, ?_⟩) (by assumption) ?_
    rotate_left
    · (intro wS hSw; (try dsimp only at hSw); go_simp; try with_reducible rfl)
    simp only [Act.put, List.setIfInBounds_toArray, List.set_cons_zero, List.set_cons_succ]
    refine take_ (i := 1) (v := ?_) 17 rfl rfl (by kernel_rfl) (by kernel_rfl) (by kernel_rfl) (fun _ _ _ h => h) (Or.inl ⟨by rfl, ?_⟩) (by assumption) ?_
    rotate_left
    · (intro wS hSw; (try dsimp only at hSw); go_simp; try with_reducible rfl)
    simp only [Act.put, List.setIfInBounds_toArray, List.set_cons_zero, List.set_cons_succ]
    refine take_ (i := 2) (v := ?_) 18 rfl rfl (by kernel_rfl) (by kernel_rfl) (by kernel_rfl) (fun _ _ _ h => h) (Or.inl ⟨by rfl, ?_⟩) (by assumption) ?_
    rotate_left
    · (intro wS hSw; (try dsimp only at hSw); go_simp; try with_reducible rfl)
    simp only [Act.put, List.setIfInBounds_toArray, List.set_cons_zero, List.set_cons_succ]
    refine take_ (i := 4) (v := ?_) 20 rfl rfl (by kernel_rfl) (by kernel_rfl) (by kernel_rfl) (fun _ _ _ h => h) (Or.inl ⟨by rfl, ?_⟩) (by assumption) ?_
    rotate_left
    · (intro wS hSw; (try dsimp only at hSw); go_simp; try with_reducible rfl)
    simp only [Act.put, List.setIfInBounds_toArray, List.set_cons_zero, List.set_cons_succ]
    refine take_ (i := 5) (v := ?_) 21 rfl rfl (by kernel_rfl) (by kernel_rfl) (by kernel_rfl) (fun _ _ _ h => h) (Or.inl ⟨by rfl, ?_⟩) (by assumption) ?_
    rotate_left
    · (intro wS hSw; (try dsimp only at hSw); go_simp; try with_reducible rfl)
    simp only [Act.put, List.setIfInBounds_toArray, List.set_cons_zero, List.set_cons_succ]
    refine take_ (i := 6) (v := ?_) 22 rfl rfl (by kernel_rfl) (by kernel_rfl) (by kernel_rfl) (fun _ _ _ h => h) (Or.inl ⟨by rfl, ?_⟩) (by assumption) ?_
    rotate_left
    · (intro wS hSw; (try dsimp only at hSw); go_simp; try with_reducible rfl)
    simp only [Act.put, List.setIfInBounds_toArray, List.set_cons_zero, List.set_cons_succ]
    refine one_ (i := 3) _ (by kernel_rfl) rfl (fun K hK => ?_)
    go_simp
    refine (C1.out _ B2.out.drew).mono ?_
    rintro x w3 ⟨v3, xs3, rfl, ho3, hl3, hp3, hb3⟩
    dsimp only
    have B3 : Hid (Below w.heap.size w w3) := B2.out.drew.trans (hb3.mono B2.out.size)
    obtain ⟨x3, rfl⟩ : ∃ x3, xs3 = [x3] := by
      rw [P1.out] at hl3
      match xs3, hl3 with
      | [x3], _ => exact ⟨x3, rfl⟩
    have PA3 : Hid (∀ W, EAt W (some ⟨g, off, none⟩) (es.take mi) → PcAt W (es.take mi) x3) := by
      show ∀ W, _ → _
      intro W hW
      have := hp3 W hW 0 (by rw [P1.out]; simp) (by simp)
      simp only [P1.out] at this
      exact this
    obtain ⟨A3, c3, hv3, _, _⟩ := ho3.any
    have O3 := Lib.hid ho3
    subst hv3
    have SZ2 : Hid (w.heap.size ≤ w2.heap.size) := B2.out.size
    clear ho3 hl3 hp3 hb3 C1
    refine hK.out _ _ trivial (fun hHeld => ?_)
    clear hK K
    refine one_ (i := 7) _ (by kernel_rfl) rfl (fun K hK => ?_)
    go_simp
    refine (C2.out _ B3.out).mono ?_
    rintro x w4 ⟨v4, xs4, rfl, ho4, hl4, hp4, hb4⟩
    dsimp only
    have B4 : Hid (Below w.heap.size w w4) := B3.out.trans (hb4.mono B3.out.size)
    obtain ⟨x4, rfl⟩ : ∃ x4, xs4 = [x4] := by
      rw [P2.out] at hl4
      match xs4, hl4 with
      | [x4], _ => exact ⟨x4, rfl⟩
    have PA4 : Hid (∀ W, EAt W (some ⟨g, off + mi * 2, none⟩) (es.drop mi) → PcAt W (es.drop mi) x4) := by
      show ∀ W, _ → _
      intro W hW
      have := hp4 W hW 0 (by rw [P2.out]; simp) (by simp)
      simp only [P2.out] at this
      exact this
    obtain ⟨A4, c4, hv4, _, hc4⟩ := ho4.any
    obtain ⟨g4', off4, rfl, _, hcell4⟩ := hc4 (by simp)
    subst hv4
    have O34 := Lib.hid (O3.out.below_ hb4)
    have X4 : ∀ u ∈ [x4], u.oneCell' = true := by
      obtain ⟨A, c, e, _, _⟩ := PA4.out w (HH.out.drop_ mi)
      intro u hu
      have : u = x4 := by simpa using hu
      rw [this, e]; rfl
    have SZ4 : Hid (w.heap.size ≤ w4.heap.size) := B4.out.size
    have OW : OwnV w4 w.heap.size (.slice A3 [x3].length c3) [x3] := ⟨O34.out.1, O34.out.2.imp id fun ⟨g, cap, cur, a1, a2, a3⟩ => ⟨g, cap, cur, a1, Nat.le_trans SZ2.out a2, a3⟩⟩
    have CELL : ∀ j u, [x4][j]? = some u → w4.cell? (Addr.add ⟨g4', off4, none⟩ j) = some u := fun j u hu => by
      rw [WideShapes.add_plain]
      exact hcell4 j u hu
    have FIN : Hid (∀ v5 w5, OwnV w5 w.heap.size v5 ([x3] ++ [x4]) → w4.grownBy w5 (Value.ownBlock (.slice A3 [x3].length c3)) → CutE w (some ⟨g, off, none⟩) es (.returned v5) w5) := by
      show ∀ v5 w5, _ → _ → _
      intro v5 w5 hown5 hg5
      refine ⟨_, _, rfl, hown5, by rw [PC.out]; rfl, fun W hW j h1 h2 => ?_, ?_⟩
      · have hj : j = 0 ∨ j = 1 := by
          have : j < 2 := h2
          omega
        rcases hj with rfl | rfl
        · have e1 : (pieces es)[0] = es.take mi := by simp only [PC.out]; rfl
          rw [e1]
          exact PA3.out W (hW.take_ mi)
        · have e1 : (pieces es)[1] = es.drop mi := by simp only [PC.out]; rfl
          rw [e1]
          exact PA4.out W (hW.drop_ mi)
      · exact B4.out.trans ⟨hg5.os, hg5.tape, hg5.output, hg5.size, fun k hk => hg5.block k (by have := SZ4.out; omega) (fun ek => by
          rcases OW.2 with ⟨e, _⟩ | ⟨g, cap, cur, e, hgb, hh, _⟩
          · rw [e] at ek; cases ek
          · rw [e] at ek
            have : g = k := by simpa [Value.ownBlock] using ek.symm
            omega)⟩
    clear ho4 hl4 hp4 hb4 C2
    refine hK.out _ _ trivial (fun hHeld => ?_)
    clear hK K
    refine one_ (i := 8) _ (by kernel_rfl) rfl (fun K hK => ?_)
    rw [if_pos (by kernel_rfl)]
    refine wp_append_v (.tmp 19) (.tmp 23) rfl w.heap.size _ _ rfl OW ⟨g4', off4, none⟩ 1 c4 [x4] rfl rfl CELL X4 (by simp) SZ4.out ?_
    intro v5 w5 hown5 hg5
    have RES := Lib.hid (FIN.out _ _ hown5 hg5)
    clear hown5 hg5 FIN OW CELL X4
    go_simp
    refine hK.out _ _ trivial (fun hHeld => ?_)
    clear hK K
    refine take_ (i := 9) (v := ?_) 2 rfl rfl (by kernel_rfl) (by kernel_rfl) (by kernel_rfl) (fun _ _ _ h => h) (Or.inl ⟨by rfl, ?_⟩) (by assumption) ?_
    rotate_left
    · (intro wS hSw; (try dsimp only at hSw); go_simp; try with_reducible rfl)
    simp only [Act.put, List.setIfInBounds_toArray, List.set_cons_zero, List.set_cons_succ]
    refine wpAnyH_done (by kernel_rfl) ?_ _
    refine NoPanic.normal ?_
    go_wp2_with fail
    go_ret
    exact RES.out
  · exact cut_small w A c es h hc (fun e he => Nat.le_trans (hs e he) hm) hl (by omega)
end Go.Proofs.YtnogmgnbhcmajaaDoor

namespace Go.Proofs.YtnogmgnbhcmajaaDoor
open Go.RowKit Wal

/-- A change under way: its own block, its tree, the store, what it has taken and what it has read. -/
structure Chg (B C : Nat) (w : World) (cb t p root n : Nat) (f : Nat → Option KB) (key : List Nat) (ed tv ov : Value) (taken old : List Nat) : Prop where
  blk : ChangeO w cb t key ed tv ov
  tree : TreeO w t p root
  mem : MemAt B w p n f
  tk : OwnN w C tv taken
  ol : OwnN w C ov old
  apart : ∀ b, tv.ownBlock = some b → ov.ownBlock ≠ some b
  base : B ≤ cb
section
variable {B C : Nat} {w w' : World} {cb t p root n : Nat} {f f' : Nat → Option KB} {key : List Nat} {ed tv ov : Value} {taken old : List Nat}
theorem Chg.under (h : Chg B C w cb t p root n f key ed tv ov taken old) (k : Below w.heap.size w w') : Chg B C w' cb t p root n f key ed tv ov taken old :=
  ⟨h.blk.below k, h.tree.below k, h.mem.under k, h.tk.below_ k, h.ol.below_ k, h.apart, h.base⟩
theorem Chg.kp (h : Chg B C w cb t p root n f key ed tv ov taken old) (k : Kp B w w') (m : MemAt B w' p n f') : Chg B C w' cb t p root n f' key ed tv ov taken old :=
  ⟨h.blk.kp k, h.tree.kp k, m, k.row h.tk (by decide) (by decide), k.row h.ol (by decide) (by decide), h.apart, h.base⟩
theorem Chg.kps {S : List TypeId} {D : Nat} (h : Chg B C w cb t p root n f key ed tv ov taken old) (k : KpS S D w w') (h1 : ∀ x ∈ [94, 67, 54, 56, 59, 3], x ∉ S) : Chg B C w' cb t p root n f key ed tv ov taken old :=
  ⟨k.held h.blk (h1 _ (by simp)), k.held h.tree (h1 _ (by simp)), k.mem h.mem (h1 _ (by simp)) (h1 _ (by simp)) (h1 _ (by simp)), k.row h.tk (h1 _ (by simp)), k.row h.ol (h1 _ (by simp)), h.apart, h.base⟩
theorem OwnN.beside {base : Nat} {v : Value} {bs : List Nat} {r : Option Nat} (h : OwnN w base v bs) (hg : w.grownBy w' r) (ha : ∀ b, r = some b → v.ownBlock ≠ some b) : OwnN w' base v bs :=
  ⟨h.1, h.2.imp id fun ⟨g, cap, cur, a1, a2, a3, rest⟩ => ⟨g, cap, cur, a1, a2, (hg.block g (Array.getElem?_eq_some_iff.1 a3).1 (fun e => ha g e.symm (by rw [a1]; rfl))).trans a3, rest⟩⟩
theorem Chg.grew_tk (h : Chg B C w cb t p root n f key ed tv ov taken old) {v : Value} {l : List Nat} (ho : OwnN w' C v l) (hg : w.grownBy w' tv.ownBlock) (hv : v.ownBlock = tv.ownBlock ∨ v.ownBlock = some w.heap.size) :
    Chg B C (w'.setCell ⟨cb, 3, none⟩ v) cb t p root n f key ed v ov l old ∧ KpC B C w (w'.setCell ⟨cb, 3, none⟩ v) := by
  have KP : KpS IS C w w' := (KpS.refl IS C w).grown h.tk hg (by simp) (Nat.le_refl _)
  have H5 : ChangeO w' cb t key ed tv ov := KP.held h.blk (by decide)
  have KS : KpS [94] B w' (w'.setCell ⟨cb, 3, none⟩ v) := (KpS.refl _ _ _).set_ H5 (by simp) h.base 3 v
  have O5 := h.ol.beside hg h.apart
  refine ⟨⟨H5.set_ 3 v, KS.held (KP.held h.tree (by decide)) (by decide), KS.mem (KP.mem h.mem (by decide) (by decide) (by decide)) (by decide) (by decide) (by decide), KS.row ho (by decide), KS.row O5 (by decide), fun b hb e => ?_, h.base⟩, ((KpC.refl B C w).grown h.tk hg).set_ H5 h.base 3 v⟩
  rcases hv with hv | hv
  · exact h.apart b (hv.symm.trans hb) e
  · have e2 : b = w.heap.size := by rw [hv] at hb; injection hb with hb; exact hb.symm
    subst e2
    have := (World.ownsRow.lt h.ol _ e).2
    omega
theorem Chg.grew_ol (h : Chg B C w cb t p root n f key ed tv ov taken old) {v : Value} {l : List Nat} (ho : OwnN w' C v l) (hg : w.grownBy w' ov.ownBlock) (hv : v.ownBlock = ov.ownBlock ∨ v.ownBlock = some w.heap.size) :
    Chg B C (w'.setCell ⟨cb, 4, none⟩ v) cb t p root n f key ed tv v taken l ∧ KpC B C w (w'.setCell ⟨cb, 4, none⟩ v) := by
  have KP : KpS IS C w w' := (KpS.refl IS C w).grown h.ol hg (by simp) (Nat.le_refl _)
  have H5 : ChangeO w' cb t key ed tv ov := KP.held h.blk (by decide)
  have KS : KpS [94] B w' (w'.setCell ⟨cb, 4, none⟩ v) := (KpS.refl _ _ _).set_ H5 (by simp) h.base 4 v
  have O5 := h.tk.beside hg (fun b e e2 => h.apart b e2 e)
  refine ⟨⟨H5.set_ 4 v, KS.held (KP.held h.tree (by decide)) (by decide), KS.mem (KP.mem h.mem (by decide) (by decide) (by decide)) (by decide) (by decide) (by decide), KS.row O5 (by decide), KS.row ho (by decide), fun b hb e => ?_, h.base⟩, ((KpC.refl B C w).grown h.ol hg).set_ H5 h.base 4 v⟩
  rcases hv with hv | hv
  · exact h.apart b hb (hv.symm.trans e)
  · have e2 : b = w.heap.size := by rw [hv] at e; injection e with e; exact e.symm
    subst e2
    have := (World.ownsRow.lt h.tk _ hb).2
    omega
end
set_option maxRecDepth 100000 in
theorem wpList_append_n1 {w : World} {ops : Array Oper} {rest : List Oper} {o : Oper} {a : Act} {Q : Exit → Act → World → Prop} (hgd : o.guard = none) (s x : Operand)
    (ho : o.op = .call { callee := .builtin .append, args := #[s, x], argTypes := #[92, 92] })
    (base : Nat) (v : Value) (k : List Nat) (hs : a.eval s = v) (hown : OwnN w base v k)
    (g m c : Nat) (l : List Nat) (hx : a.eval x = .slice (some ⟨g, 0, none⟩) m c) (hl : l.length = m) (hA : ∀ j u, (l.map iV)[j]? = some u → w.cell? ⟨g, 0 + j, none⟩ = some u) (hr : k.length + m ≤ 100000) (hbase : base ≤ w.heap.size)
    (h : ∀ v' w', OwnN w' base v' (k ++ l) → w.grownBy w' v.ownBlock → (v'.ownBlock = v.ownBlock ∨ v'.ownBlock = some w.heap.size) → wpList Tryd.prog ops Q rest (a.put o.dst v') w') : wpList Tryd.prog ops Q (o :: rest) a w :=
  wpList_plain hgd fun _ hK => by
    obtain ⟨i, hi, hz, hsize, hby⟩ := info_parts infoN
    obtain ⟨v', w', hrun, h2, h3, _, h5⟩ := run_append_own_at (P := Tryd.prog) w base 92 o.type 3 i (.int .i64 0) 1 8 Tryd.underlying92 hi hz hsize hby rfl (by omega) v k.length (k.map iV) hown ⟨g, 0, none⟩ m c (l.map iV) (by simp [hl])
      (fun j u hu => by rw [WideShapes.add_plain]; exact hA j u hu)
      (fun u hu => by obtain ⟨x, _, rfl⟩ := List.mem_map.1 hu; rfl) (by simp only [maxLen]; omega) (by omega) hbase
    unfold Oper.wp execOp
    simp only [ho, resolve, invoke, builtin, Sem.run_bind, Sem.run_pure, Result.andThen_ok, List.map_toArray, List.map_cons, List.map_nil, hs, hx, hrun]
    exact hK _ _ (h v' w' (by unfold OwnN; rw [List.length_append, List.map_append, hl]; exact h2) h3 h5)
set_option maxRecDepth 100000 in
set_option maxHeartbeats 1600000 in
theorem chtake_any (B C : Nat) (w : World) (cb t p root n : Nat) (f : Nat → Option KB) (key : List Nat) (ed tv ov : Value) (taken old : List Nat) (h : Chg B C w cb t p root n f key ed tv ov taken old) (hB : B ≤ w.heap.size) (hC : C ≤ w.heap.size) (room : ∃ j, j < n ∧ f j = none) (few : taken.length ≤ 90000) :
    Calls Tryd.prog 72 #[.pointer (some ⟨cb, 0, none⟩)] w fun x w' => ∃ i tv', Least n f i ∧ x = .returned (.int .i64 ((i + 1 : Nat) : Int)) ∧ Chg B C w' cb t p root n (put f i (some zeroKB)) key ed tv' ov (taken ++ [i + 1]) old ∧ KpC B C w w' := by
  have H := Lib.hid h
  have RO := Lib.hid room
  have TA := Lib.hid (take_any B w p n f hB h.mem)
  have c0 := h.blk.cell 0
  have t0 := h.tree.cell 0
  unfold stoB at t0
  clear h room
  go_enter Tryd.func72, Tryd.ntmps72
  go_wp2_with fail
  rw [meetsB_take]
  case hn => kernel_rfl
  go_simp
  refine TA.out.mono ?_
  rintro e w2 (⟨i, hl, rfl, m2, k2⟩ | ⟨hfull, rfl, rfl⟩)
  · have LE := Lib.hid hl
    have H2 := Lib.hid (H.out.kp k2 m2)
    have K2 : Hid (KpC B C w w2) := KpC.of_kp k2
    have HD := Lib.hid (heedT_ok w2)
    have SZ2 : Hid (C ≤ w2.heap.size) := Nat.le_trans hC K2.out.size
    obtain ⟨b, hb⟩ : ∃ b : Nat, b = i + 1 := ⟨_, rfl⟩
    have HBI := Lib.hid hb
    rw [show (i : Int) + 1 = (b : Int) by omega]
    have b1 : ¬ (b : Int) < 1 := by omega
    clear hl m2 k2 TA hb c0 t0
    go_wp2_with fail
    refine HD.out.mono ?_
    rintro e w3 ⟨rfl, rfl⟩
    clear HD
    obtain ⟨r, hr⟩ : ∃ r, r = w2.heap.size := ⟨_, rfl⟩
    obtain ⟨w4, hw4⟩ : ∃ w4, w4 = w2.alloc (.cells #[.int .i64 (b : Int)] 3) := ⟨_, rfl⟩
    have U4 : Hid (Below w2.heap.size w2 w4) := by rw [hw4]; exact (Below.refl _ _).alloc (Nat.le_refl _) _
    have H4 := Lib.hid (H2.out.under U4.out)
    have I4 : Hid (∀ j u, ([b].map iV)[j]? = some u → w4.cell? ⟨r, 0 + j, none⟩ = some u) := by
      rw [hw4]
      obtain ⟨g, off, e, _, hc⟩ := n_one w2 b r hr (by simp)
      cases e
      exact hc
    have K4 : Hid (KpC B C w w4) := K2.out.trans (KpC.under U4.out)
    have SZ4 : Hid (C ≤ w4.heap.size) := Nat.le_trans SZ2.out U4.out.size
    have HW4 := Lib.hid hw4
    have HR := Lib.hid hr
    have c3 := H2.out.blk.cell 3
    clear hw4 hr
    obtain ⟨tA, tm, tc, htv⟩ : ∃ A m c, tv = .slice A m c := by
      obtain ⟨A, c, e, _⟩ := H2.out.tk.any
      exact ⟨A, _, c, e⟩
    subst htv
    have FW : Hid (taken.length ≤ 90000) := few
    clear few
    go_wp2_with (at_builtin; rw [← HW4.out, ← HR.out]; refine wpList_append_n1 rfl (.tmp 22) (.tmp 24) rfl C _ _ rfl H4.out.tk r 1 1 [b] rfl rfl I4.out (by have := FW.out; omega) SZ4.out ?_; intro v5 w5 hown5 hg5 hv5; obtain ⟨A5, m5, c5, rfl⟩ : ∃ A m c, v5 = .slice A m c := (by obtain ⟨A, c, e, _⟩ := hown5.any; exact ⟨A, _, c, e⟩); have E5 := Lib.hid (H4.out.grew_tk hown5 hg5 hv5); have H5 : Hid (ChangeO w5 cb t key ed (.slice tA tm tc) ov) := ((KpS.refl IS C w4).grown H4.out.tk hg5 (by simp) (Nat.le_refl _)).held H4.out.blk (by decide); have e5 := H5.out.cell 3; have z5 := H5.out.frozen 3; have lq := H5.out.lt; clear hown5 hg5 hv5 c3)
    go_ret
    have F : Chg B C (w5.setCell ⟨cb, 3, none⟩ (.slice A5 m5 c5)) cb t p root n (put f i (some zeroKB)) key ed (.slice A5 m5 c5) ov (taken ++ [i + 1]) old := by
      rw [← HBI.out]
      exact E5.out.1
    have HBI' := HBI.out
    subst HBI'
    exact ⟨i, _, LE.out, rfl, F, K4.out.trans E5.out.2⟩
  · obtain ⟨j, hj, hf⟩ := RO.out
    exact absurd hf (hfull j hj)
end Go.Proofs.YtnogmgnbhcmajaaDoor
