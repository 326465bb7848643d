/-
  btree: slices.Replace, at a row's end, and in place where it becomes no longer.
-/
import Derived.Test.YtnogmgnbhcmajaaDoorQA18
namespace Go.Proofs.YtnogmgnbhcmajaaDoor
open Go.RowKit Wal

set_option maxRecDepth 100000 in
set_option maxHeartbeats 1600000 in
theorem replace_end (w : World) (base g cap : Nat) (es : List En) (rest : List Value) (hh : EHeld w g (rowEn es ++ rest)) (hl : (rowEn es ++ rest).length = cap * 2) (hc : cap ≤ maxLen) (hg : base ≤ g) (i : Nat) (hi : i < es.length) (A : Option Addr) (c : Nat) (l : List En) (hs : Src w g A l) (hm : i + l.length < es.length) (hn : es.length ≤ 1000) :
    Calls Tryd.prog 61 #[.slice (some ⟨g, 0, none⟩) es.length cap, .int .i64 (i : Nat), .int .i64 (es.length : Nat), .slice A l.length c] w fun x w' => ∃ v', x = .returned v' ∧ OwnEn w' base v' (es.take i ++ l) ∧ w.grownBy w' (some g) := by
  have lm : cap ≤ 9223372036854775807 := hc
  obtain ⟨n, hn0⟩ : ∃ n, n = es.length := ⟨_, rfl⟩
  have HN := Lib.hid hn0
  rw [← hn0] at hi hm hn ⊢
  clear hn0
  have ec : n ≤ cap := by rw [List.length_append, rowEn_length, ← HN.out] at hl; omega
  have lt : (es.take i).length = i := by rw [List.length_take, ← HN.out]; omega
  have ltr : (rowEn (es.take i)).length = i * 2 := by rw [rowEn_length, lt]
  have lr : (rowEn l).length = l.length * 2 := rowEn_length l
  have own0 : OwnEn w base (.slice (some ⟨g, 0, none⟩) i cap) (es.take i) := by
    rw [rowEn_cut es rest i] at hh hl
    have := hh.own hl hc hg
    rwa [lt] at this
  obtain ⟨i0, hi0, hz0, hs0, hb0⟩ := info_parts infoEn
  obtain ⟨m, hm0⟩ : ∃ m, m = l.length := ⟨_, rfl⟩
  have HM := Lib.hid hm0
  rw [← hm0] at hm lr
  have hap : ∀ ty, (Builtin.append_ #[74, 74] ty #[.slice (some ⟨g, 0, none⟩) i cap, .slice A m c]).run Tryd.prog w = .ok (.slice (some ⟨g, 0, none⟩) (i + m) cap) (w.setCells g (i * 2) (rowEn l)) := fun ty => by
    cases A with
    | none =>
      have el := hs.none_ rfl
      have em : m = 0 := by rw [hm0, el]; rfl
      subst em
      rw [el]
      have ri : i ≤ cap := by omega
      simp [Builtin.append_, run_underlying Tryd.underlying74, sizeOf, typeInfo, hi0, Builtin.lenOf, Builtin.firstCells, storeCells, rowEn, World.setCells, ri]
    | some a =>
      have := run_append_room_cells (P := Tryd.prog) w 74 ty 77 i0 Tryd.underlying74 hi0 g 0 i cap a m c (rowEn l) (by rw [rowEn_length, hs0, hm0]) (fun j u hj => by
        have hp : 0 < l.length := by
          have := (List.getElem?_eq_some_iff.1 hj).1
          omega
        obtain ⟨g', off, e, _, hcc⟩ := hs.at_ hp
        cases e
        rw [WideShapes.add_plain]
        exact hcc j u hj) (rowEn_one l) (by omega) (fun j hj => by rw [hs0, Nat.zero_add, hh.cell_, List.getElem?_eq_getElem (by rw [hl]; omega)]; rfl) (fun j hj => Held.frozen hh _)
      rw [hs0, Nat.zero_add] at this
      exact this
  rw [rowEn_cut es rest i] at hh hl
  have sp1 : i * 2 + (rowEn l).length ≤ (rowEn (es.take i) ++ (rowEn (es.drop i) ++ rest)).length := by rw [hl]; omega
  have h1 := hh.set_ _ _ sp1
  have o1 := only_cells w g (i * 2) (rowEn l)
  obtain ⟨w1, hw1⟩ : ∃ w1, w1 = w.setCells g (i * 2) (rowEn l) := ⟨_, rfl⟩
  rw [← hw1] at h1 o1 hap
  rw [← ltr, splice_next] at h1
  have len1 : (rowEn (es.take i) ++ rowEn l ++ (rowEn (es.drop i) ++ rest).drop (rowEn l).length).length = cap * 2 := by
    rw [List.length_append, List.length_append] at hl
    simp only [List.length_append, List.length_drop] at hl ⊢
    omega
  have hcl := fun ty => run_clear_e h1 ((i + m) * 2) (n - (i + m)) (cap - (i + m)) (by rw [len1]; omega) (by omega) ty
  have zl : (zerosL (n - (i + m))).length = (n - (i + m)) * 2 := zeros_length _
  have h2 := h1.set_ ((i + m) * 2) (zerosL (n - (i + m))) (by rw [len1, zl]; omega)
  have o2 : Only [g] w (w1.setCells g ((i + m) * 2) (zerosL (n - (i + m)))) := o1.trans (only_cells w1 g _ _) (fun x hx => .inl hx)
  obtain ⟨w2, hw2⟩ : ∃ w2, w2 = w1.setCells g ((i + m) * 2) (zerosL (n - (i + m))) := ⟨_, rfl⟩
  rw [← hw2] at h2 o2 hcl
  have len2 := (splice_length (cur := rowEn (es.take i) ++ rowEn l ++ (rowEn (es.drop i) ++ rest).drop (rowEn l).length) (o := (i + m) * 2) (vs := zerosL (n - (i + m))) (by rw [len1, zl]; omega)).trans len1
  obtain ⟨Y, hY⟩ := keep_gen (P := rowEn (es.take i) ++ rowEn l) (Y := (rowEn (es.drop i) ++ rest).drop (rowEn l).length) (Z := zerosL (n - (i + m))) (o := (i + m) * 2) (by rw [List.length_append]; omega)
  rw [hY] at h2 len2
  have FIN0 : OwnEn w2 base (.slice (some ⟨g, 0, none⟩) (i + m) cap) (es.take i ++ l) ∧ w.grownBy w2 (some g) := by
    have := own_place (base := base) (cap := cap) (A := es.take i) (V := l) (C := []) (by simpa [rowEn] using h2) o2 (by simpa [rowEn] using len2) hc hg
    rw [lt, ← hm0] at this
    simpa using this
  have FIN := Lib.hid FIN0
  have HAP := Lib.hid hap
  have q1 : ¬ (i : Int) = (n : Int) := by omega
  have q2 : i ≤ n := by omega
  have q3 : (i : Int) + (m : Int) < (n : Int) := by omega
  have q4 : ¬ cap = i + m := by omega
  have q5 : i + m ≤ n := by omega
  have q6 : (i : Int) ≤ (n : Int) := by omega
  have q7 : ¬ cap = i := by omega
  have q8 : (i : Int) + (m : Int) ≤ (n : Int) := by omega
  rw [← hm0]
  clear hh hs h1 o1 h2 o2 hw1 hw2 hY len1 len2 zl hl ltr lt lr sp1 own0 hm0 hap FIN0
  go_enter Tryd.func61, Tryd.ntmps61
  go_wp2_with (at_builtin; refine Lib.wpList_append_run _ rfl (o := ⟨some 34, _, _, _, _, _⟩) (.tmp 32) (.tmp 33) 74 74 rfl _ _ rfl rfl _ _ (HAP.out _) ?_)
  go_ret
  exact ⟨_, rfl, FIN.out.1, FIN.out.2⟩
set_option maxRecDepth 100000 in
set_option maxHeartbeats 1600000 in
theorem replace_end2 (w : World) (base g cap : Nat) (es : List En) (rest : List Value) (hh : EHeld w g (rowEn es ++ rest)) (hl : (rowEn es ++ rest).length = cap * 2) (hc : cap ≤ maxLen) (hg : base ≤ g) (hb : base ≤ w.heap.size) (i : Nat) (hi : i < es.length) (A : Option Addr) (c : Nat) (l : List En) (hs : Src w g A l) (hm : es.length ≤ i + l.length) (hn : es.length ≤ 1000) (hll : l.length ≤ 1000) :
    Calls Tryd.prog 61 #[.slice (some ⟨g, 0, none⟩) es.length cap, .int .i64 (i : Nat), .int .i64 (es.length : Nat), .slice A l.length c] w fun x w' => ∃ v', x = .returned v' ∧ OwnEn w' base v' (es.take i ++ l) ∧ w.grownBy w' (some g) := by
  have lm : cap ≤ 9223372036854775807 := hc
  obtain ⟨n, hn0⟩ : ∃ n, n = es.length := ⟨_, rfl⟩
  have HN := Lib.hid hn0
  rw [← hn0] at hi hm hn ⊢
  clear hn0
  have ec : n ≤ cap := by rw [List.length_append, rowEn_length, ← HN.out] at hl; omega
  have lt : (es.take i).length = i := by rw [List.length_take, ← HN.out]; omega
  have own0 : OwnEn w base (.slice (some ⟨g, 0, none⟩) i cap) (es.take i) := by
    rw [rowEn_cut es rest i] at hh hl
    have := hh.own hl hc hg
    rwa [lt] at this
  have O := Lib.hid own0
  have LT := Lib.hid lt
  have SA := Lib.hid hs.at_
  have HB := Lib.hid hb
  obtain ⟨m, hm0⟩ : ∃ m, m = l.length := ⟨_, rfl⟩
  have HM := Lib.hid hm0
  rw [← hm0] at hm hll ⊢
  have q1 : ¬ (i : Int) = (n : Int) := by omega
  have q2 : i ≤ n := by omega
  have q3 : ¬ (i : Int) + (m : Int) < (n : Int) := by omega
  have q6 : (i : Int) ≤ (n : Int) := by omega
  have q7 : ¬ cap = i := by omega
  clear hh hl own0 lt hs hb hm0
  go_enter Tryd.func61, Tryd.ntmps61
  go_wp2_with (at_builtin; refine wpList_append_e rfl (o := ⟨some 34, _, _, _, _, _⟩) (.tmp 32) (.tmp 33) rfl base _ _ rfl O.out A m c l rfl HM.out.symm SA.out (by rw [LT.out]; omega) HB.out ?_; intro v4 w4 hown4 hg4; obtain ⟨A4, c4, rfl, _, _⟩ := hown4.any; have le : (es.take i ++ l).length = i + m := (by rw [List.length_append, LT.out, ← HM.out]); rw [le] at hown4 ⊢; have F : Hid (OwnEn w4 base (.slice A4 (i + m) c4) (es.take i ++ l) ∧ w.grownBy w4 (some g)) := ⟨hown4, hg4⟩; clear hown4 hg4 le)
  go_ret
  exact ⟨_, rfl, F.out.1, F.out.2⟩
set_option maxRecDepth 100000 in
set_option maxHeartbeats 1600000 in
theorem replace_place (w : World) (base g cap : Nat) (es : List En) (rest : List Value) (hh : EHeld w g (rowEn es ++ rest)) (hl : (rowEn es ++ rest).length = cap * 2) (hc : cap ≤ maxLen) (hg : base ≤ g) (i j : Nat) (hi : i < j) (hj : j < es.length) (A : Option Addr) (c : Nat) (l : List En) (hs : Src w g A l) (hm : i + l.length ≤ j) (hn : es.length ≤ 1000) :
    Calls Tryd.prog 61 #[.slice (some ⟨g, 0, none⟩) es.length cap, .int .i64 (i : Nat), .int .i64 (j : Nat), .slice A l.length c] w fun x w' => ∃ v', x = .returned v' ∧ OwnEn w' base v' (es.take i ++ l ++ es.drop j) ∧ w.grownBy w' (some g) := by
  have lm : cap ≤ 9223372036854775807 := hc
  obtain ⟨n, hn0⟩ : ∃ n, n = es.length := ⟨_, rfl⟩
  have HN := Lib.hid hn0
  rw [← hn0] at hj hn ⊢
  clear hn0
  have ec : n ≤ cap := by rw [List.length_append, rowEn_length, ← HN.out] at hl; omega
  have lt : (es.take i).length = i := by rw [List.length_take, ← HN.out]; omega
  have ld : (es.drop j).length = n - j := by rw [List.length_drop, ← HN.out]
  have ltr : (rowEn (es.take i)).length = i * 2 := by rw [rowEn_length, lt]
  have ldr : (rowEn (es.drop j)).length = (n - j) * 2 := by rw [rowEn_length, ld]
  obtain ⟨m, hm0⟩ : ∃ m, m = l.length := ⟨_, rfl⟩
  have HM := Lib.hid hm0
  have lr : (rowEn l).length = m * 2 := by rw [rowEn_length, ← hm0]
  rw [← hm0] at hm ⊢
  have RF : ∀ q, EHeld (w.drewN q) g (rowEn es ++ rest) := fun q => hh
  have hcp1 : ∀ q ty d, (Builtin.copy_ #[74, 74] ty #[.slice (some ⟨g, i * 2, none⟩) (i + m + (n - j) - i) d, .slice A m c]).run Tryd.prog (w.drewN q) = .ok (goInt m) ((w.drewN q).setCells g (i * 2) (rowEn l)) := fun q ty d => by
    have := run_copy_src (RF q) (i * 2) (i + m + (n - j) - i) d A c l (hs.only ((Only.refl [g] w).drewN q)) (by omega) (by rw [hl]; omega) ty
    rwa [← hm0] at this
  have sp1 : i * 2 + (rowEn l).length ≤ (rowEn es ++ rest).length := by rw [hl]; omega
  have h1 : ∀ q, EHeld ((w.drewN q).setCells g (i * 2) (rowEn l)) g _ := fun q => (RF q).set_ _ _ sp1
  have o1 : ∀ q, Only [g] w ((w.drewN q).setCells g (i * 2) (rowEn l)) := fun q => ((Only.refl [g] w).drewN q).trans (only_cells _ g _ _) (fun x hx => .inl hx)
  have c1 : ∀ q, EAt ((w.drewN q).setCells g (i * 2) (rowEn l)) (some ⟨g, j * 2, none⟩) (es.drop j) := fun q hp => by
    obtain ⟨g', off, e, hlt, hcc⟩ := row_from (RF q) j hp
    cases e
    refine ⟨g, j * 2, rfl, (h1 q).lt, fun k u hu => ?_⟩
    rw [(h1 q).cell_, splice_behind (by omega) (by rw [hl]; omega), ← (RF q).cell_]
    exact hcc k u hu
  obtain ⟨w1, hw1⟩ : ∃ w1 : Nat → World, w1 = fun q => (w.drewN q).setCells g (i * 2) (rowEn l) := ⟨_, rfl⟩
  have hw1' : ∀ q, (w.drewN q).setCells g (i * 2) (rowEn l) = w1 q := fun q => by rw [hw1]
  simp only [hw1'] at h1 o1 c1 hcp1
  have hcp2 : ∀ q r ty d s, (Builtin.copy_ #[74, 74] ty #[.slice (some ⟨g, (i + m) * 2, none⟩) (n - j) d, .slice (some ⟨g, j * 2, none⟩) (n - j) s]).run Tryd.prog ((w1 q).drewN r) = .ok (goInt (n - j : Nat)) (((w1 q).drewN r).setCells g ((i + m) * 2) (rowEn (es.drop j))) := fun q r ty d s => by
    have := run_copy_e (show EHeld ((w1 q).drewN r) g _ from h1 q) ((i + m) * 2) (n - j) d ⟨g, j * 2, none⟩ (n - j) s (es.drop j) (by rw [ld]; simp) (show EAt ((w1 q).drewN r) _ _ from c1 q) (by rw [splice_length sp1, hl, ld]; omega) rfl ty
    simpa using this
  have sp2 : (i + m) * 2 + (rowEn (es.drop j)).length ≤ (splice (rowEn es ++ rest) (i * 2) (rowEn l)).length := by rw [splice_length sp1, hl]; omega
  have h2 : ∀ q r, EHeld (((w1 q).drewN r).setCells g ((i + m) * 2) (rowEn (es.drop j))) g _ := fun q r => (show EHeld ((w1 q).drewN r) g _ from h1 q).set_ _ _ sp2
  have o2 : ∀ q r, Only [g] w (((w1 q).drewN r).setCells g ((i + m) * 2) (rowEn (es.drop j))) := fun q r => ((o1 q).drewN r).trans (only_cells _ g _ _) (fun x hx => .inl hx)
  obtain ⟨w2, hw2⟩ : ∃ w2 : Nat → Nat → World, w2 = fun q r => ((w1 q).drewN r).setCells g ((i + m) * 2) (rowEn (es.drop j)) := ⟨_, rfl⟩
  have hw2' : ∀ q r, ((w1 q).drewN r).setCells g ((i + m) * 2) (rowEn (es.drop j)) = w2 q r := fun q r => by rw [hw2]
  simp only [hw2'] at h2 o2 hcp2
  have len2 := (splice_length sp2).trans (splice_length sp1)
  rw [hl] at len2
  have e2 : splice (splice (rowEn es ++ rest) (i * 2) (rowEn l)) ((i + m) * 2) (rowEn (es.drop j)) = rowEn (es.take i) ++ rowEn l ++ rowEn (es.drop j) ++ (rowEn (es.drop i) ++ rest).drop ((rowEn l).length + (rowEn (es.drop j)).length) := by
    rw [rowEn_cut es rest i, ← next_gen, ltr, lr]
    congr 1
    omega
  rw [e2] at h2 len2
  generalize (rowEn (es.drop i) ++ rest).drop ((rowEn l).length + (rowEn (es.drop j)).length) = X at h2 len2
  have hcl : ∀ q r ty d, m < j - i → (Builtin.clear_ #[74] ty #[.slice (some ⟨g, (i + m + (n - j)) * 2, none⟩) (n - (i + m + (n - j))) d]).run Tryd.prog (w2 q r) = .ok (.tuple #[]) ((w2 q r).setCells g ((i + m + (n - j)) * 2) (zerosL (n - (i + m + (n - j))))) := fun q r ty d _ => run_clear_e (h2 q r) _ _ d (by rw [len2]; omega) (by omega) ty
  have zl : (zerosL (n - (i + m + (n - j)))).length = (n - (i + m + (n - j))) * 2 := zeros_length _
  have FA : ∀ q r, OwnEn (w2 q r) base (.slice (some ⟨g, 0, none⟩) (i + m + (n - j)) cap) (es.take i ++ l ++ es.drop j) ∧ w.grownBy (w2 q r) (some g) := fun q r => by
    have := own_place (base := base) (cap := cap) (h2 q r) (o2 q r) len2 hc hg
    rwa [lt, ← hm0, ld] at this
  have FB : ∀ q r, OwnEn ((w2 q r).setCells g ((i + m + (n - j)) * 2) (zerosL (n - (i + m + (n - j))))) base (.slice (some ⟨g, 0, none⟩) (i + m + (n - j)) cap) (es.take i ++ l ++ es.drop j) ∧ w.grownBy ((w2 q r).setCells g ((i + m + (n - j)) * 2) (zerosL (n - (i + m + (n - j))))) (some g) := fun q r => by
    have h3 := (h2 q r).set_ ((i + m + (n - j)) * 2) (zerosL (n - (i + m + (n - j)))) (by rw [len2, zl]; omega)
    have len3 := (splice_length (cur := rowEn (es.take i) ++ rowEn l ++ rowEn (es.drop j) ++ X) (o := (i + m + (n - j)) * 2) (vs := zerosL (n - (i + m + (n - j)))) (by rw [len2, zl]; omega)).trans len2
    obtain ⟨Y, hY⟩ := keep_gen (P := rowEn (es.take i) ++ rowEn l ++ rowEn (es.drop j)) (Y := X) (Z := zerosL (n - (i + m + (n - j)))) (o := (i + m + (n - j)) * 2) (by rw [List.length_append, List.length_append, ltr, lr, ldr]; omega)
    rw [hY] at h3 len3
    have := own_place (base := base) (cap := cap) h3 ((o2 q r).trans (only_cells _ g _ _) (fun x hx => .inl hx)) len3 hc hg
    rwa [lt, ← hm0, ld] at this
  have hcp2' : ∀ q ty d s, (Builtin.copy_ #[74, 74] ty #[.slice (some ⟨g, (i + m) * 2, none⟩) (n - j) d, .slice (some ⟨g, j * 2, none⟩) (n - j) s]).run Tryd.prog (w1 q).drew = .ok (goInt (n - j : Nat)) (w2 q 1) := fun q ty d s => hcp2 q 1 ty d s
  obtain ⟨w3, hw3⟩ : ∃ w3 : Nat → World, w3 = fun q => if m < j - i then (w2 q 1).setCells g ((i + m + (n - j)) * 2) (zerosL (n - (i + m + (n - j)))) else w2 q 1 := ⟨_, rfl⟩
  have FIN : Hid (∀ q, OwnEn (w3 q) base (.slice (some ⟨g, 0, none⟩) (i + m + (n - j)) cap) (es.take i ++ l ++ es.drop j) ∧ w.grownBy (w3 q) (some g)) := fun q => by
    rw [hw3]
    by_cases hlt : m < j - i
    · simp only [if_pos hlt]
      exact FB q 1
    · simp only [if_neg hlt]
      exact FA q 1
  have hcl' : ∀ q ty d, (Builtin.clear_ #[74] ty #[.slice (some ⟨g, (i + m + (n - j)) * 2, none⟩) (n - (i + m + (n - j))) d]).run Tryd.prog (w2 q 1) = .ok (.tuple #[]) (w3 q) := fun q ty d => by
    rw [hw3]
    by_cases hlt : m < j - i
    · simp only [if_pos hlt]
      exact hcl q 1 ty d hlt
    · simp only [if_neg hlt]
      rw [show n - (i + m + (n - j)) = 0 by omega]
      exact run_clear_0 _ _ _ _
  have hcl2 : ∀ q ty d, cap = i + m + (n - j) → (Builtin.clear_ #[74] ty #[.slice (some ⟨g, 0, none⟩) (n - (i + m + (n - j))) d]).run Tryd.prog (w2 q 1) = .ok (.tuple #[]) (w3 q) := fun q ty d ht => by
    rw [hw3]
    have hlt : ¬ m < j - i := by omega
    simp only [if_neg hlt]
    rw [show n - (i + m + (n - j)) = 0 by omega]
    exact run_clear_0 _ _ _ _
  have q1 : ¬ (i : Int) = (j : Int) := by omega
  have q2 : ¬ (j : Int) = (n : Int) := by omega
  have q3 : i ≤ j := by omega
  have q4 : j ≤ n := by omega
  have q6 : (i : Int) ≤ (j : Int) := by omega
  have q7 : ¬ cap = i := by omega
  have q8 : ¬ cap = j := by omega
  have q9 : (i : Int) + (m : Int) + ((n : Int) - (j : Int)) = ((i + m + (n - j) : Nat) : Int) := by omega
  have q10 : i + m + (n - j) ≤ n := by omega
  have q11 : (i : Int) + (m : Int) ≤ (j : Int) := by omega
  have q12 : IntKind.i64.wrap ((i : Int) + (m : Int)) = (i : Int) + (m : Int) := by rw [IntKind.wrap_i64]; omega
  have q13 : (0 : Int) ≤ (i : Int) + (m : Int) := by omega
  have q14 : (i : Int) + (m : Int) ≤ (i : Int) + (m : Int) + ((n - j : Nat) : Int) := by omega
  have q15 : ((i : Int) + (m : Int)).toNat = i + m := by omega
  have q16 : ¬ cap = i + m := by omega
  have q17 : i + m + (n - j) - (i + m) = n - j := by omega
  have q18 : ¬ n - j = 0 := by omega
  clear hh hs h1 o1 h2 o2 c1 hw1 hw2 hw1' hw2' len2 zl hl ltr lt lr ld ldr sp1 sp2 hm0 FA FB RF e2 hw3 hcl hcp2
  by_cases hcc : cap = i + m + (n - j)
  · subst hcc
    have hcl3 := fun q ty d => hcl2 q ty d rfl
    have hz : n - (i + m + (n - j)) = 0 := by omega
    simp only [hz] at hcl3
    clear hcl2 hcl' hz
    go_enter Tryd.func61, Tryd.ntmps61
    go_upto_region 9 with fail
    go_quiet (fail)
    go_wp2_with fail
    go_region_law (refine step_copy_run rfl _ _ 74 74 rfl _ _ (by simp [Act.eval, Act.put]) (by simp [Act.eval, Act.put]) (hcp2' _ _ _ _) ?_)
    go_wp2_with fail
    go_ret
    exact ⟨_, rfl, FIN.out _⟩
  · clear hcl2
    go_enter Tryd.func61, Tryd.ntmps61
    go_upto_region 9 with fail
    go_quiet (fail)
    go_wp2_with fail
    go_region_law (refine step_copy_run rfl _ _ 74 74 rfl _ _ (by simp [Act.eval, Act.put]) (by simp [Act.eval, Act.put]) (hcp2' _ _ _ _) ?_)
    go_wp2_with fail
    go_ret
    exact ⟨_, rfl, FIN.out _⟩
end Go.Proofs.YtnogmgnbhcmajaaDoor
