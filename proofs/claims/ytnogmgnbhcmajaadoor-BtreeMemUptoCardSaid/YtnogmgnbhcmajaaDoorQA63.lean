/-
  btree: Open, Root; what is taken, counted. · btree: the law's examples (fixed).
-/
import Derived.Test.YtnogmgnbhcmajaaDoorQA61
namespace Go.Proofs.YtnogmgnbhcmajaaDoor
open Go.RowKit Wal

set_option maxRecDepth 100000 in
theorem open_any (w : World) (p root : Nat) : Calls Tryd.prog 11 #[stoB p, .int .i64 (root : Int)] w fun x w' => ∃ t, x = .returned (.pointer (some ⟨t, 0, none⟩)) ∧ w.heap.size ≤ t ∧ TreeO w' t p root ∧ Below w.heap.size w w' := by
  obtain ⟨ri, hri⟩ : ∃ ri : Int, ri = (root : Int) := ⟨_, rfl⟩
  have r0 : ¬ ri < 0 := by omega
  have HRI := Lib.hid hri
  unfold stoB
  rw [← hri]
  clear hri
  go_enter Tryd.func11, Tryd.ntmps11
  go_wp2_with fail
  go_ret
  refine ⟨w.heap.size, rfl, Nat.le_refl _, ?_, (Below.refl _ _).alloc (Nat.le_refl _) _⟩
  unfold TreeO
  rw [← HRI.out]
  exact Held.new _ _ _ rfl
set_option maxRecDepth 100000 in
theorem open_none (w : World) (r : Int) : Calls Tryd.prog 11 #[.nilIface, .int .i64 r] w fun x w' => x = .returned (.pointer none) ∧ w = w' := by
  go_enter Tryd.func11, Tryd.ntmps11
  go_wp2_with fail
  go_ret
  exact ⟨rfl, rfl⟩
set_option maxRecDepth 100000 in
theorem open_low (w : World) (p : Nat) (r : Int) (hr : r < 0) : Calls Tryd.prog 11 #[stoB p, .int .i64 r] w fun x w' => x = .returned (.pointer none) ∧ w = w' := by
  unfold stoB
  go_enter Tryd.func11, Tryd.ntmps11
  go_wp2_with fail
  go_ret
  exact ⟨rfl, rfl⟩
/-- Just the tree's blocks are taken, and those that are held. -/
structure Full (n : Nat) (f : Nat → Option KB) (bs hs : List Nat) : Prop where
  taken : ∀ j, f j ≠ none → j < n ∧ (j + 1 ∈ bs ∨ j + 1 ∈ hs)
  held : ∀ v ∈ hs, 1 ≤ v ∧ ∃ l, f (v - 1) = some (l, true)
  flag : ∀ j l, f j = some (l, true) → j + 1 ∈ hs
theorem Full.none_ (n : Nat) : Full n (fun _ => none) [] [] := ⟨fun _ h => absurd rfl h, by simp, fun _ _ h => by cases h⟩
theorem Full.keep {n : Nat} {f f' : Nat → Option KB} {bs bs' hs olds news kept : List Nat} (h : Full n f bs hs) (s : Swapped n f f' bs bs' olds news kept) : ∀ v ∈ hs, f' (v - 1) = f (v - 1) := fun v hv => by
  obtain ⟨h1, l, hl⟩ := h.held v hv
  by_cases c1 : v ∈ news
  · have := (s.fresh v c1).2.2.1
    rw [hl] at this
    cases this
  · by_cases c2 : v ∈ olds
    · rw [s.gone v c2, hl]
    · exact s.same (v - 1) (by rw [show v - 1 + 1 = v by omega]; exact c1) (by rw [show v - 1 + 1 = v by omega]; exact c2)
theorem Full.swap {n : Nat} {f f' : Nat → Option KB} {bs bs' hs olds news kept : List Nat} (h : Full n f bs hs) (s : Swapped n f f' bs bs' olds news kept) : Full n f' bs' hs := by
  have gone_ : ∀ j, j + 1 ∈ olds → f' j = (match f j with | some (l, true) => some (l, true) | _ => none) := fun j hj => by
    have := s.gone (j + 1) hj
    rwa [Nat.add_sub_cancel] at this
  refine ⟨fun j hj => ?_, fun v hv => ?_, fun j l hj => ?_⟩
  · by_cases c1 : j + 1 ∈ news
    · obtain ⟨_, h2, _⟩ := s.fresh _ c1
      exact ⟨by omega, .inl ((s.new_.mem_iff).2 (by simp [c1]))⟩
    · by_cases c2 : j + 1 ∈ olds
      · rw [gone_ j c2] at hj
        match hf : f j, hj with
        | some (l, true), _ => exact ⟨(h.taken j (by rw [hf]; simp)).1, .inr (h.flag j l hf)⟩
        | some (l, false), hj => exact absurd rfl hj
        | none, hj => exact absurd rfl hj
      · rw [s.same j c1 c2] at hj
        obtain ⟨h1, h2⟩ := h.taken j hj
        refine ⟨h1, h2.imp (fun h3 => ?_) id⟩
        rcases List.mem_append.1 ((s.old.mem_iff).1 h3) with h4 | h4
        · exact absurd h4 c2
        · exact (s.new_.mem_iff).2 (by simp [h4])
  · obtain ⟨h1, l, hl⟩ := h.held v hv
    exact ⟨h1, l, by rw [h.keep s v hv]; exact hl⟩
  · by_cases c1 : j + 1 ∈ news
    · obtain ⟨_, _, _, l', hl⟩ := s.fresh _ c1
      rw [Nat.add_sub_cancel, hj] at hl
      cases hl
    · by_cases c2 : j + 1 ∈ olds
      · rw [gone_ j c2] at hj
        match hf : f j, hj with
        | some (l', true), _ => exact h.flag j l' hf
        | some (l', false), hj => cases hj
        | none, hj => cases hj
      · rw [s.same j c1 c2] at hj
        exact h.flag j l hj
theorem cnt_top (f : Nat → Option KB) : ∀ (n : Nat) (L : List Nat), (∀ j, j < n → f j ≠ none → j + 1 ∈ L) → cnt n f ≤ L.length
  | 0, L, _ => Nat.zero_le _
  | n + 1, L, h => by
    rw [cnt_succ]
    by_cases c : f n = none
    · have := cnt_top f n L (fun j hj hf => h j (by omega) hf)
      simp [c]
      omega
    · have hm := h n (by omega) c
      have := cnt_top f n (L.erase (n + 1)) (fun j hj hf => (List.mem_erase_of_ne (by omega)).2 (h j (by omega) hf))
      rw [List.length_erase_of_mem hm] at this
      have hp := List.length_pos_of_mem hm
      split <;> omega
theorem Full.cnt {n : Nat} {f : Nat → Option KB} {bs hs : List Nat} (h : Full n f bs hs) : cnt n f ≤ bs.length + hs.length := by
  rw [← List.length_append]
  exact cnt_top f n _ (fun j _ hf => List.mem_append.2 (h.taken j hf).2)
theorem cnt_ge {n : Nat} {f : Nat → Option KB} {L : List Nat} (hd : L.Nodup) (h : ∀ v ∈ L, 1 ≤ v ∧ v ≤ n ∧ f (v - 1) ≠ none) : L.length ≤ cnt n f := by
  have h1 := cnt_grew n L (fun j => if j + 1 ∈ L then none else f j) f hd (fun v hv => by
    obtain ⟨a, b, c⟩ := h v hv
    exact ⟨a, b, by show (if v - 1 + 1 ∈ L then none else f (v - 1)) = none; rw [show v - 1 + 1 = v by omega, if_pos hv], c⟩) (fun j hj => by show (f j).isSome = (if j + 1 ∈ L then none else f j).isSome; rw [if_neg hj])
  omega
end Go.Proofs.YtnogmgnbhcmajaaDoor

namespace Go.Proofs.YtnogmgnbhcmajaaDoor
open Go.RowKit Wal

theorem At.few {f : Nat → Option KB} {d b : Nat} {es : List En} {bs : List Nat} (h : At f d b es bs) : 2 ^ d ≤ es.length ∨ d = 0 := by
  rcases h with ⟨_, h, _, _⟩ | t
  · exact .inr h
  · exact .inl t.len.2
theorem deep_of {f : Nat → Option KB} {root : Nat} {es : List En} {bs : List Nat} (h : es.length ≤ 50000) : Deep f root es bs := fun d hd => by
  rcases hd.few with h1 | h1
  · refine Classical.byContradiction fun hc => ?_
    have h2 : 2 ^ 16 ≤ 2 ^ d := Nat.pow_le_pow_right (by omega) (by omega)
    omega
  · omega
theorem roomy_flat {n : Nat} {f : Nat → Option KB} {root : Nat} {es : List En} {bs : List Nat} (h : bs.length ≤ 1) (hc : cnt n f + 5 ≤ n) : Roomy n f root es bs := fun d hd => by
  have := hd.flat h
  omega
theorem live_new {B : Nat} {w : World} {t p n : Nat} (ht : TreeO w t p 0) (hm : MemAt B w p n fun _ => none) (hn : n ≤ 4096) (hB : B ≤ t) : LiveT B w t p 0 n (fun _ => none) [] [] :=
  ⟨ht, hm, .inl ⟨rfl, rfl, rfl⟩, (fun e he => (by cases he)), hn, hB⟩
theorem used_one {n : Nat} {f : Nat → Option KB} {root : Nat} {es : List En} {bs : List Nat} (h : Tree f root es bs) (hf : Full n f bs []) (hb : bs.length ≤ 1) (hne : es ≠ []) : cnt n f = 1 := by
  have h1 := hf.cnt
  rcases h with ⟨_, h, _⟩ | ⟨d, t, _⟩
  · exact absurd h hne
  · have tt := t.top
    obtain ⟨_, _, x, hx⟩ := t.taken root tt.2.2.2
    have hlt := (hf.taken (root - 1) (by rw [hx]; simp)).1
    have h2 := cnt_ge (n := n) (f := f) (L := [root]) (by simp) (fun v hv => by
      have : v = root := by simpa using hv
      subst this
      exact ⟨tt.1, by omega, by rw [hx]; simp⟩)
    simp only [List.length_cons, List.length_nil] at h1 h2
    omega
set_option maxRecDepth 100000 in
set_option maxHeartbeats 3200000 in
theorem fixed_any (w : World) : Calls Tryd.prog 4 #[] w fun x w' => x = .returned (.bool true) ∧ Below w.heap.size w w' := by
  have s97 : strB [97] = ⟨#[97]⟩ := rfl
  have s98 : strB [98] = ⟨#[98]⟩ := rfl
  have s49 : strB [49] = ⟨#[49]⟩ := rfl
  have s50 : strB [50] = ⟨#[50]⟩ := rfl
  have s120 : strB [120] = ⟨#[120]⟩ := rfl
  have s0 : strB [] = ⟨#[]⟩ := rfl
  have NM := Lib.hid (newmem_any w.heap.size w (Nat.le_refl _) 9)
  have S97 := Lib.hid s97
  have S98 := Lib.hid s98
  have S49 := Lib.hid s49
  have S50 := Lib.hid s50
  have S120 := Lib.hid s120
  have S0 := Lib.hid s0
  clear s97 s98 s49 s50 s120 s0
  go_enter Tryd.func4, Tryd.ntmps4
  go_wp2_with fail
  refine NM.out.mono ?_
  rintro x w1 ⟨p, rfl, hp, hm, hb1⟩
  have B1 := Lib.hid hb1
  have M1 : Hid (MemAt w.heap.size w1 p 9 fun _ => none) := hm
  have OP : Hid (Calls Tryd.prog 11 #[.iface 24 (.pointer (some ⟨p, 0, none⟩)), .int .i64 0] w1 fun x w' => ∃ t, x = .returned (.pointer (some ⟨t, 0, none⟩)) ∧ w1.heap.size ≤ t ∧ TreeO w' t p 0 ∧ Below w1.heap.size w1 w') := open_any w1 p 0
  clear hb1 hm hp NM
  go_wp2_with fail
  refine OP.out.mono ?_
  rintro x w2 ⟨t, rfl, ht, hT, hb2⟩
  have B2 : Hid (Below w.heap.size w w2) := B1.out.trans (hb2.mono B1.out.size)
  have L2 := live_new hT (M1.out.under hb2) (by omega) (Nat.le_trans B1.out.size ht)
  have PA := put_any w.heap.size w2 t p 0 9 _ [] [] L2 (roomy_flat (by simp) (by rw [cnt_noneB]; omega)) [97] [49] (by simp) (by simp)
  rw [S97.out, S49.out] at PA
  have PA := Lib.hid PA
  clear ht hT hb2 OP L2
  go_wp2_with fail
  refine PA.out.mono ?_
  intro x w3 hx
  unfold PutA at hx
  rw [if_pos (by decide)] at hx
  obtain ⟨rfl, f1, r1, bs1, olds1, news1, kept1, L3, sw1, th1, k1⟩ := hx
  have F1 := (Full.none_ 9).swap sw1
  have n1 : bs1.length ≤ 1 := th1 (by simp) (by decide)
  have c1 := F1.cnt
  have B3 : Hid (Below w.heap.size w w3) := B2.out.trans (k1.below B2.out.size)
  have PB := put_any w.heap.size w3 t p r1 9 f1 _ bs1 L3 (roomy_flat n1 (by simp only [List.length_nil] at c1; omega)) [98] [50] (by simp) (by simp)
  rw [S98.out, S50.out] at PB
  have PB := Lib.hid PB
  have FF1 := Lib.hid F1
  have NN1 : Hid (bs1.length ≤ 1) := n1
  clear PA k1 sw1 th1 L3 F1 n1 c1
  go_wp2_with fail
  refine PB.out.mono ?_
  intro x w4 hx
  unfold PutA at hx
  rw [if_pos (by decide)] at hx
  obtain ⟨rfl, f2, r2, bs2, olds2, news2, kept2, L4, sw2, th2, k2⟩ := hx
  have F2 := FF1.out.swap sw2
  have n2 : bs2.length ≤ 1 := th2 NN1.out (by decide)
  have c2 := used_one L4.lies F2 n2 (by decide)
  have B4 : Hid (Below w.heap.size w w4) := B3.out.trans (k2.below B3.out.size)
  have US := used_any w.heap.size w4 p 9 f2 L4.mem
  rw [c2] at US
  have US := Lib.hid US
  have LL4 := Lib.hid L4
  have C2 : Hid (cnt 9 f2 = 1 ∧ bs2.length ≤ 1) := ⟨c2, n2⟩
  have FF2 := Lib.hid F2
  clear PB FF1 NN1 k2 sw2 th2 L4 F2 n2 c2
  go_wp2_with fail
  refine US.out.mono ?_
  rintro x w5 ⟨rfl, hb5⟩
  have L5 := LL4.out.under hb5
  have B5 : Hid (Below w.heap.size w w5) := B4.out.trans (hb5.mono B4.out.size)
  have GE := tget_any w.heap.size w5 t p r2 9 f2 _ bs2 L5 (deep_of (by decide)) [97] (by simp)
  rw [S97.out] at GE
  have GE := Lib.hid GE
  have LL5 := Lib.hid L5
  clear US hb5 L5 LL4
  go_wp2_with fail
  refine GE.out.mono ?_
  rintro x w6 ⟨hx, hb6⟩
  unfold GetA at hx
  rw [if_pos (by decide)] at hx
  have hx : x = .returned (.tuple #[.string (strB [49]), .bool true, .int .i64 0]) := hx
  rw [S49.out] at hx
  subst hx
  have L6 := LL5.out.under hb6
  have B6 : Hid (Below w.heap.size w w6) := B5.out.trans (hb6.mono B5.out.size)
  have DE := tdel_any w.heap.size w6 t p r2 9 f2 _ bs2 L6 (roomy_flat C2.out.2 (by rw [C2.out.1]; omega)) [97] (by simp)
  rw [S97.out] at DE
  have DE := Lib.hid DE
  clear GE hb6 L6 LL5
  go_wp2_with fail
  refine DE.out.mono ?_
  intro x w7 hx
  unfold DelA at hx
  rw [if_pos (by decide)] at hx
  obtain ⟨rfl, f3, r3, bs3, olds3, news3, kept3, L7, sw3, th3, k3⟩ := hx
  have F3 := FF2.out.swap sw3
  have n3 : bs3.length ≤ 1 := th3 C2.out.2 (by decide)
  have c3 := F3.cnt
  have B7 : Hid (Below w.heap.size w w7) := B6.out.trans (k3.below B6.out.size)
  have SC := tscan_any w.heap.size w7 t p r3 9 f3 _ bs3 L7 (deep_of (by decide)) (by decide) [] (by simp) 9 (by omega) (by omega)
  rw [S0.out] at SC
  have SC := Lib.hid SC
  have LL7 := Lib.hid L7
  have C3 : Hid (cnt 9 f3 + 5 ≤ 9 ∧ bs3.length ≤ 1) := ⟨by simp only [List.length_nil] at c3; omega, n3⟩
  clear DE k3 sw3 th3 L7 F3 n3 c3 C2 FF2
  go_wp2_with fail
  refine SC.out.mono ?_
  rintro x w8 ⟨v, rfl, hO, hb8⟩
  have L8 := LL7.out.under hb8
  have B8 : Hid (Below w.heap.size w w8) := B7.out.trans (hb8.mono B7.out.size)
  have PX := put_any w.heap.size w8 t p r3 9 f3 _ bs3 L8 (roomy_flat C3.out.2 C3.out.1) [] [120] (by simp) (by simp)
  rw [S0.out, S120.out] at PX
  have PX := Lib.hid PX
  have hO : OwnP w8 w7.heap.size v [([98], [50])] := hO
  obtain ⟨A, c, rfl, _, hPA⟩ := hO.any
  obtain ⟨g, off, rfl, h0, _⟩ := hPA.at_ (k := 0) (by simp)
  have h0 : w8.cell? ⟨g, off, none⟩ = some (.string (strB [98])) := h0
  rw [S98.out] at h0
  have l1 : ([([98], [50])] : List En).length = 1 := rfl
  rw [l1]
  clear hPA hO SC hb8 L8 LL7 C3
  go_wp2_with fail
  refine PX.out.mono ?_
  intro x w9 hx
  unfold PutA at hx
  rw [if_neg (by decide)] at hx
  obtain ⟨rfl, hb9⟩ := hx
  have B9 : Hid (Below w.heap.size w w9) := B8.out.trans (hb9.mono B8.out.size)
  clear PX hb9 h0
  go_wp2_with fail
  go_ret
  exact ⟨rfl, B9.out⟩
end Go.Proofs.YtnogmgnbhcmajaaDoor
