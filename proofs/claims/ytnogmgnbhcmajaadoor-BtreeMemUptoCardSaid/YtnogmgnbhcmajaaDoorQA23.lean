/-
  btree: slices.Replace, where it becomes longer; slices.Replace.
-/
import Derived.Test.YtnogmgnbhcmajaaDoorQA22
namespace Go.Proofs.YtnogmgnbhcmajaaDoor
open Go.RowKit Wal

theorem overlaps_src {w : World} {g : Nat} {cur : List Value} {A : Option Addr} {l : List En} (hs : Src w g A l) (hg : EHeld w g cur) (hne : l ≠ []) (off n c lb cb : Nat) :
    (callFunc 42 #[.slice (some ⟨g, off, none⟩) n c, .slice A lb cb]).run Tryd.prog w = .ok (.value (.bool false)) w := by
  obtain ⟨i, hi, hz, hsize, hby⟩ := info_parts infoEn
  rw [run_callFunc_extern Tryd.func42 (by kernel_rfl) (by kernel_rfl) (by kernel_rfl) (e := Extern.SlicesOverlaps.overlaps #[74, 74] #[4]) (by kernel_rfl)]
  cases A with
  | none => exact absurd (hs.none_ rfl) hne
  | some a =>
    obtain ⟨h1, h2, cs, h3, h4⟩ := hs.block a rfl
    rw [Lib.run_overlaps_apart w 74 4 77 Tryd.underlying74 2 (fun w => by simp [sizeOf, typeInfo, hi, hsize]) ⟨g, off, none⟩ a n c lb cb (Ne.symm h2) _ _ _ _ (Held.shape_ hg) (Held.shape_ h3) h4 (Held.frozen hg _) (Held.frozen hg _)]
    rfl
set_option maxRecDepth 100000 in
set_option maxHeartbeats 1600000 in
theorem replace_shift (w : World) (base g cap : Nat) (es : List En) (rest : List Value) (hh : EHeld w g (rowEn es ++ rest)) (hl : (rowEn es ++ rest).length = cap * 2) (hc : cap ≤ maxLen) (hg : base ≤ g) (i j : Nat) (hi : i < j) (hj : j < es.length) (A : Option Addr) (c : Nat) (l : List En) (hs : Src w g A l) (hm : j < i + l.length) (ht : i + l.length + (es.length - j) ≤ cap) (hn : es.length ≤ 1000) (hll : l.length ≤ 1000) :
    Calls Tryd.prog 61 #[.slice (some ⟨g, 0, none⟩) es.length cap, .int .i64 (i : Nat), .int .i64 (j : Nat), .slice A l.length c] w fun x w' => ∃ v', x = .returned v' ∧ OwnEn w' base v' (es.take i ++ l ++ es.drop j) ∧ w.grownBy w' (some g) := by
  have lm : cap ≤ 9223372036854775807 := hc
  obtain ⟨n, hn0⟩ : ∃ n, n = es.length := ⟨_, rfl⟩
  have HN := Lib.hid hn0
  rw [← hn0] at hj hn ht ⊢
  clear hn0
  have ec : n ≤ cap := by rw [List.length_append, rowEn_length, ← HN.out] at hl; omega
  have lt : (es.take i).length = i := by rw [List.length_take, ← HN.out]; omega
  have ld : (es.drop j).length = n - j := by rw [List.length_drop, ← HN.out]
  have ltr : (rowEn (es.take i)).length = i * 2 := by rw [rowEn_length, lt]
  have ldr : (rowEn (es.drop j)).length = (n - j) * 2 := by rw [rowEn_length, ld]
  obtain ⟨m, hm0⟩ : ∃ m, m = l.length := ⟨_, rfl⟩
  have HM := Lib.hid hm0
  have lr : (rowEn l).length = m * 2 := by rw [rowEn_length, ← hm0]
  rw [← hm0] at hm ht hll ⊢
  have RF : ∀ q, EHeld (w.drewN q) g (rowEn es ++ rest) := fun q => hh
  have SF : ∀ q, Src (w.drewN q) g A l := fun q => hs.only ((Only.refl [g] w).drewN q)
  have hov := fun q off n c c' => overlaps_src (SF q) (RF q) (fun e => by rw [e] at hm0; simp at hm0; omega) off n c m c'
  have sp1 : (i + m) * 2 + (rowEn (es.drop j)).length ≤ (rowEn es ++ rest).length := by rw [hl, ldr]; omega
  have hcp1 : ∀ q ty d s, (Builtin.copy_ #[74, 74] ty #[.slice (some ⟨g, (i + m) * 2, none⟩) (n - j) d, .slice (some ⟨g, j * 2, none⟩) (n - j) s]).run Tryd.prog (w.drewN (q + 1)) = .ok (goInt (n - j : Nat)) ((w.drewN (q + 1)).setCells g ((i + m) * 2) (rowEn (es.drop j))) := fun q ty d s => by
    have := run_copy_e (show EHeld (w.drewN (q + 1)) g _ from hh) ((i + m) * 2) (n - j) d ⟨g, j * 2, none⟩ (n - j) s (es.drop j) (by rw [ld]; simp) (row_from (show EHeld (w.drewN (q + 1)) g _ from hh) j) (by rw [hl, ld]; omega) rfl ty
    simpa using this
  have h1 : ∀ q, EHeld ((w.drewN (q + 1)).setCells g ((i + m) * 2) (rowEn (es.drop j))) g _ := fun q => (show EHeld (w.drewN (q + 1)) g _ from hh).set_ _ _ sp1
  have o1 : ∀ q, Only [g] w ((w.drewN (q + 1)).setCells g ((i + m) * 2) (rowEn (es.drop j))) := fun q => ((Only.refl [g] w).drewN (q + 1)).trans (only_cells _ g _ _) (fun x hx => .inl hx)
  obtain ⟨w1, hw1⟩ : ∃ w1 : Nat → World, w1 = fun q => (w.drewN (q + 1)).setCells g ((i + m) * 2) (rowEn (es.drop j)) := ⟨_, rfl⟩
  have hw1' : ∀ q, (w.drewN (q + 1)).setCells g ((i + m) * 2) (rowEn (es.drop j)) = w1 q := fun q => by rw [hw1]
  simp only [hw1'] at h1 o1 hcp1
  have hcp2 : ∀ q ty d, (Builtin.copy_ #[74, 74] ty #[.slice (some ⟨g, i * 2, none⟩) (i + m + (n - j) - i) d, .slice A m c]).run Tryd.prog (w1 q) = .ok (goInt m) ((w1 q).setCells g (i * 2) (rowEn l)) := fun q ty d => by
    have := run_copy_src (h1 q) (i * 2) (i + m + (n - j) - i) d A c l (hs.only (o1 q)) (by omega) (by rw [splice_length sp1, hl]; omega) ty
    rwa [← hm0] at this
  have sp2 : i * 2 + (rowEn l).length ≤ (splice (rowEn es ++ rest) ((i + m) * 2) (rowEn (es.drop j))).length := by rw [splice_length sp1, hl, lr]; omega
  have h2 : ∀ q, EHeld ((w1 q).setCells g (i * 2) (rowEn l)) g _ := fun q => (h1 q).set_ _ _ sp2
  have len2 := (splice_length sp2).trans (splice_length sp1)
  rw [hl] at len2
  have e2 : splice (splice (rowEn es ++ rest) ((i + m) * 2) (rowEn (es.drop j))) (i * 2) (rowEn l) = rowEn (es.take i) ++ rowEn l ++ rowEn (es.drop j) ++ (rowEn (es.drop i) ++ rest).drop ((rowEn l).length + (rowEn (es.drop j)).length) := by
    rw [rowEn_cut es rest i, ← place_gen (by rw [lr, ldr]; rw [rowEn_cut es rest i, List.length_append, ltr] at hl; omega), ltr, lr]
    congr 1
    congr 1
    omega
  rw [e2] at h2 len2
  generalize (rowEn (es.drop i) ++ rest).drop ((rowEn l).length + (rowEn (es.drop j)).length) = X at h2 len2
  have FIN : Hid (∀ q, OwnEn ((w1 q).setCells g (i * 2) (rowEn l)) base (.slice (some ⟨g, 0, none⟩) (i + m + (n - j)) cap) (es.take i ++ l ++ es.drop j) ∧ w.grownBy ((w1 q).setCells g (i * 2) (rowEn l)) (some g)) := fun q => by
    have := own_place (base := base) (cap := cap) (h2 q) ((o1 q).trans (only_cells _ g _ _) (fun x hx => .inl hx)) len2 hc hg
    rwa [lt, ← hm0, ld] at this
  have q1 : ¬ (i : Int) = (j : Int) := by omega
  have q2 : ¬ (j : Int) = (n : Int) := by omega
  have q3 : i ≤ j := by omega
  have q4 : j ≤ n := by omega
  have q6 : (i : Int) ≤ (j : Int) := by omega
  have q7 : ¬ cap = i := by omega
  have q8 : ¬ cap = j := by omega
  have q9 : ¬ (cap : Int) < (i : Int) + (m : Int) + ((n - j : Nat) : Int) := by omega
  have q10 : i + m + (n - j) ≤ cap := by omega
  have q11 : ¬ (i : Int) + (m : Int) ≤ (j : Int) := by omega
  have q12 : IntKind.i64.wrap ((i : Int) + (m : Int)) = (i : Int) + (m : Int) := by rw [IntKind.wrap_i64]; omega
  have q13 : (0 : Int) ≤ (i : Int) + (m : Int) := by omega
  have q14 : (i : Int) + (m : Int) ≤ (i : Int) + (m : Int) + ((n - j : Nat) : Int) := by omega
  have q15 : ((i : Int) + (m : Int)).toNat = i + m := by omega
  have q16 : ¬ cap = i + m := by omega
  have q17 : i + m + (n - j) - (i + m) = n - j := by omega
  have q18 : ¬ n - j = 0 := by omega
  have q19 : (i : Int) ≤ (i : Int) + (m : Int) + ((n - j : Nat) : Int) := by omega
  clear hh hs h1 o1 h2 hw1 hw1' len2 hl ltr lt lr ld ldr sp1 sp2 hm0 RF SF e2
  go_enter Tryd.func61, Tryd.ntmps61
  go_upto_region 9 with fail
  go_quiet (fail)
  go_wp2_with (simp only [hov])
  go_region_law (refine step_copy_run rfl _ _ 74 74 rfl _ _ (by simp [Act.eval, Act.put]) (by simp [Act.eval, Act.put]) (hcp1 _ _ _ _) ?_)
  go_wp2_with (at_builtin; refine wpList_copy_run _ rfl (o := ⟨some 135, _, _, _, _, _⟩) _ _ 74 74 rfl _ _ rfl rfl (hcp2 _ _ _) ?_)
  go_ret
  exact ⟨_, rfl, FIN.out _⟩
set_option maxRecDepth 100000 in
set_option maxHeartbeats 1600000 in
theorem replace_grow (w : World) (base g cap : Nat) (es : List En) (rest : List Value) (hh : EHeld w g (rowEn es ++ rest)) (hl : (rowEn es ++ rest).length = cap * 2) (hc : cap ≤ maxLen) (hb : base ≤ w.heap.size) (i j : Nat) (hi : i < j) (hj : j < es.length) (A : Option Addr) (c : Nat) (l : List En) (hs : Src w g A l) (hsl : ∀ a, A = some a → a.block < w.heap.size) (ht : cap < i + l.length + (es.length - j)) (hn : es.length ≤ 1000) (hll : l.length ≤ 1000) :
    Calls Tryd.prog 61 #[.slice (some ⟨g, 0, none⟩) es.length cap, .int .i64 (i : Nat), .int .i64 (j : Nat), .slice A l.length c] w fun x w' => ∃ v', x = .returned v' ∧ OwnEn w' base v' (es.take i ++ l ++ es.drop j) ∧ w.grownBy w' (some g) := by
  have lm : cap ≤ 9223372036854775807 := hc
  obtain ⟨n, hn0⟩ : ∃ n, n = es.length := ⟨_, rfl⟩
  have HN := Lib.hid hn0
  rw [← hn0] at hj hn ht ⊢
  clear hn0
  have ec : n ≤ cap := by rw [List.length_append, rowEn_length, ← HN.out] at hl; omega
  have lt : (es.take i).length = i := by rw [List.length_take, ← HN.out]; omega
  have ld : (es.drop j).length = n - j := by rw [List.length_drop, ← HN.out]
  have ltr : (rowEn (es.take i)).length = i * 2 := by rw [rowEn_length, lt]
  have ldr : (rowEn (es.drop j)).length = (n - j) * 2 := by rw [rowEn_length, ld]
  obtain ⟨m, hm0⟩ : ∃ m, m = l.length := ⟨_, rfl⟩
  have HM := Lib.hid hm0
  have lr : (rowEn l).length = m * 2 := by rw [rowEn_length, ← hm0]
  rw [← hm0] at ht hll ⊢
  obtain ⟨i0, hi0, hz0, hs0, hb0⟩ := info_parts infoEn
  obtain ⟨k, hk⟩ : ∃ k, k = m + (n - j) := ⟨_, rfl⟩
  have hap := fun q ty => run_append_zeros_grow (P := Tryd.prog) (w.drewN q) 74 3 ty 77 i0 (.agg #[.string ⟨#[]⟩, .string ⟨#[]⟩]) .i64 .i64 Tryd.underlying74 Tryd.underlying3 hi0 hz0 (by omega) ⟨g, 0, none⟩ i cap (rowEn (es.take i)) (by rw [ltr, hs0]) (fun x v hx => by
    have := (row_at (show EHeld (w.drewN q) g _ from hh)).take_ i
    have hp : 0 < (es.take i).length := by
      have := (List.getElem?_eq_some_iff.1 hx).1
      omega
    obtain ⟨g', off, e', _, hcc⟩ := this hp
    cases e'
    rw [WideShapes.add_plain]
    exact hcc x v hx) k (by omega) (by omega) (by omega) (by omega)
  obtain ⟨T, hT⟩ : ∃ T, T = i + k := ⟨_, rfl⟩
  have HT := Lib.hid hT
  simp only [← hT] at hap
  obtain ⟨zs, hzs⟩ : ∃ zs : Nat → List Value, zs = fun q => (Builtin.zeroCells (Value.agg #[.string ⟨#[]⟩, .string ⟨#[]⟩]).cells k).toList ++ (Builtin.zeroCells (Value.agg #[.string ⟨#[]⟩, .string ⟨#[]⟩]).cells (grownCap (w.drewN q) T cap 77 - T)).toList := ⟨_, rfl⟩
  obtain ⟨c2, hc2⟩ : ∃ c2 : Nat → Nat, c2 = fun q => grownCap (w.drewN q) T cap 77 := ⟨_, rfl⟩
  have c2a : ∀ q, T ≤ c2 q := fun q => by rw [hc2]; exact grownCap_ge _ _ _ _
  have c2b : ∀ q, c2 q ≤ maxLen := fun q => by rw [hc2]; exact grownCap_le_maxLen _ _ _ _ (by unfold maxLen; omega)
  have zl : ∀ q, (zs q).length = (c2 q - i) * 2 := fun q => by
    have := c2a q
    rw [hzs]
    simp only [List.length_append, zeros_length]
    rw [hc2] at this ⊢
    simp only at this ⊢
    omega
  obtain ⟨w1, hw1⟩ : ∃ w1 : Nat → World, w1 = fun q => (w.drewN q).drew.alloc (.cells (rowEn (es.take i) ++ zs q).toArray 77) := ⟨_, rfl⟩
  obtain ⟨b, hb1⟩ : ∃ b, b = w.heap.size := ⟨_, rfl⟩
  have ecs : ∀ q, (Builtin.append_ #[74, 3] 74 #[.slice (some ⟨g, 0, none⟩) i cap, .int .i64 ((k : Nat) : Int)]).run Tryd.prog (w.drewN q) = .ok (.slice (some ⟨b, 0, none⟩) T (c2 q)) (w1 q) := fun q => by
    rw [hap q, hw1, hc2, hb1]
    simp only [hzs]
    congr 3
    congr 1
    apply Array.toList_inj.1
    simp
  have h0 : ∀ q, EHeld (w1 q) b (rowEn (es.take i) ++ zs q) := fun q => by rw [hw1]; exact Held.new _ _ _ hb1
  have o0 : ∀ q, Below w.heap.size w (w1 q) := fun q => by rw [hw1]; exact (show Below w.heap.size w (w.drewN q).drew from ⟨rfl, rfl, rfl, Nat.le_refl _, fun _ _ => rfl⟩).alloc (Nat.le_refl _) _
  have len0 : ∀ q, (rowEn (es.take i) ++ zs q).length = c2 q * 2 := fun q => by have := c2a q; rw [List.length_append, ltr, zl]; omega
  have bn : w.heap.size ≤ b := by omega
  have ne : g ≠ b := by have := Held.lt hh; omega
  have s1 : ∀ q, Src (w1 q) b A l := fun q => ⟨hs.at_.below ((o0 q)), hs.none_, fun a ha => by
    obtain ⟨x1, x2, cs, x3, x4⟩ := hs.block a ha
    have := hsl a ha
    exact ⟨x1, by omega, cs, x3.below (o0 q) this, x4⟩⟩
  have sp1 : ∀ q, i * 2 + (rowEn l).length ≤ (rowEn (es.take i) ++ zs q).length := fun q => by have := c2a q; rw [len0, lr]; omega
  have hcp1 : ∀ q ty d, (Builtin.copy_ #[74, 74] ty #[.slice (some ⟨b, i * 2, none⟩) (T - i) d, .slice A m c]).run Tryd.prog (w1 q) = .ok (goInt m) ((w1 q).setCells b (i * 2) (rowEn l)) := fun q ty d => by
    have := run_copy_src (h0 q) (i * 2) (T - i) d A c l (s1 q) (by omega) (by have := sp1 q; omega) ty
    rwa [← hm0] at this
  have h1 : ∀ q, EHeld ((w1 q).setCells b (i * 2) (rowEn l)) b _ := fun q => (h0 q).set_ _ _ (sp1 q)
  have o1 : ∀ q, Below w.heap.size w ((w1 q).setCells b (i * 2) (rowEn l)) := fun q => below_only (o0 q) (only_cells _ b _ _) bn (o0 q).size
  have c1 : ∀ q, EAt ((w1 q).setCells b (i * 2) (rowEn l)) (some ⟨g, j * 2, none⟩) (es.drop j) := fun q => by
    have e2 : EHeld ((w1 q).setCells b (i * 2) (rowEn l)) g (rowEn es ++ rest) := Held.below hh (o1 q) (Held.lt hh)
    exact row_from e2 j
  obtain ⟨w2, hw2⟩ : ∃ w2 : Nat → World, w2 = fun q => (w1 q).setCells b (i * 2) (rowEn l) := ⟨_, rfl⟩
  have hw2' : ∀ q, (w1 q).setCells b (i * 2) (rowEn l) = w2 q := fun q => by rw [hw2]
  simp only [hw2'] at h1 o1 hcp1 c1
  have sp2 : ∀ q, (i + m) * 2 + (rowEn (es.drop j)).length ≤ (splice (rowEn (es.take i) ++ zs q) (i * 2) (rowEn l)).length := fun q => by have := c2a q; rw [splice_length (sp1 q), len0, ldr]; omega
  have hcp2 : ∀ q ty d s, (Builtin.copy_ #[74, 74] ty #[.slice (some ⟨b, (i + m) * 2, none⟩) (T - (i + m)) d, .slice (some ⟨g, j * 2, none⟩) (n - j) s]).run Tryd.prog (w2 q).drew = .ok (goInt (Nat.min (n - j) (T - (i + m)) : Nat)) ((w2 q).drew.setCells b ((i + m) * 2) (rowEn (es.drop j))) := fun q ty d s =>
    run_copy_e (show EHeld (w2 q).drew b _ from h1 q) ((i + m) * 2) (T - (i + m)) d ⟨g, j * 2, none⟩ (n - j) s (es.drop j) (by rw [ld]; simp only [Nat.min_def]; split <;> omega) (show EAt (w2 q).drew _ _ from c1 q) (by have := sp2 q; rw [ldr] at this; rw [ld]; exact this) rfl ty
  have h2 : ∀ q, EHeld ((w2 q).drew.setCells b ((i + m) * 2) (rowEn (es.drop j))) b _ := fun q => (show EHeld (w2 q).drew b _ from h1 q).set_ _ _ (sp2 q)
  have o2 : ∀ q, Below w.heap.size w ((w2 q).drew.setCells b ((i + m) * 2) (rowEn (es.drop j))) := fun q => below_only (o1 q).drew (only_cells _ b _ _) bn (o1 q).size
  have len2 := fun q => (splice_length (sp2 q)).trans ((splice_length (sp1 q)).trans (len0 q))
  have e2 : ∀ q, splice (splice (rowEn (es.take i) ++ zs q) (i * 2) (rowEn l)) ((i + m) * 2) (rowEn (es.drop j)) = rowEn (es.take i) ++ rowEn l ++ rowEn (es.drop j) ++ (zs q).drop ((rowEn l).length + (rowEn (es.drop j)).length) := fun q => by
    rw [← next_gen, ltr, lr]
    congr 1
    omega
  simp only [e2] at h2 len2
  have FIN : Hid (∀ q, OwnEn ((w2 q).drew.setCells b ((i + m) * 2) (rowEn (es.drop j))) base (.slice (some ⟨b, 0, none⟩) T (c2 q)) (es.take i ++ l ++ es.drop j) ∧ w.grownBy ((w2 q).drew.setCells b ((i + m) * 2) (rowEn (es.drop j))) (some g)) := fun q => by
    have := own_place (base := base) (cap := c2 q) (h2 q) (Only.refl [b] _) (len2 q) (c2b q) (by omega)
    rw [lt, ← hm0, ld, show i + m + (n - j) = T by omega] at this
    exact ⟨this.1, ⟨(o2 q).os, (o2 q).tape, (o2 q).output, (o2 q).size, fun x hx _ => (o2 q).block x hx⟩⟩
  have q1 : ¬ (i : Int) = (j : Int) := by omega
  have q2 : ¬ (j : Int) = (n : Int) := by omega
  have q3 : i ≤ j := by omega
  have q4 : j ≤ n := by omega
  have q6 : (i : Int) ≤ (j : Int) := by omega
  have q7 : ¬ cap = i := by omega
  have q8 : ¬ cap = j := by omega
  have q9 : (i : Int) + (m : Int) + ((n - j : Nat) : Int) = (T : Int) := by omega
  have q10 : (cap : Int) < (T : Int) := by omega
  have q11 : (T : Int) - (i : Int) = ((k : Nat) : Int) := by omega
  have q12 : IntKind.i64.wrap ((i : Int) + (m : Int)) = (i : Int) + (m : Int) := by rw [IntKind.wrap_i64]; omega
  have q13 : (0 : Int) ≤ (i : Int) + (m : Int) := by omega
  have q14 : (i : Int) + (m : Int) ≤ (T : Int) := by omega
  have q15 : ((i : Int) + (m : Int)).toNat = i + m := by omega
  have q16 : ∀ q, ¬ c2 q = i + m := fun q => by have := c2a q; omega
  have q17 : ∀ q, ¬ c2 q = i := fun q => by have := c2a q; omega
  have q18 : ∀ q, i ≤ c2 q := fun q => by have := c2a q; omega
  have q19 : (i : Int) ≤ (T : Int) := by omega
  have q20 : ∀ q, c2 q ≤ 9223372036854775807 := c2b
  have q21 : i ≤ T := by omega
  have q22 : i + m ≤ T := by omega
  have HAP := Lib.hid ecs
  clear hh hs h1 o1 h2 o2 hw1 hw2 hw2' len2 hl ltr lt lr ld ldr sp1 sp2 hm0 e2 hap ecs h0 o0 c1 s1 len0 zl hzs hc2 hb1 hT hk hsl
  go_enter Tryd.func61, Tryd.ntmps61
  go_upto_region 9 with fail
  go_quiet (fail)
  go_wp2_with (first | (at_builtin; refine Lib.wpList_append_run _ rfl (o := ⟨some 67, _, _, _, _, _⟩) (.tmp 63) (.tmp 66) 74 3 rfl _ _ rfl rfl _ _ (HAP.out _) ?_) | (at_builtin; refine wpList_copy_run _ rfl (o := ⟨some 72, _, _, _, _, _⟩) _ _ 74 74 rfl _ _ rfl rfl (hcp1 _ _ _) ?_))
  go_region_law (refine step_copy_run rfl _ _ 74 74 rfl _ _ (by simp [Act.eval, Act.put]) (by simp [Act.eval, Act.put]) (hcp2 _ _ _ _) ?_)
  go_wp2_with fail
  go_ret
  exact ⟨_, rfl, FIN.out _⟩
/-- slices.Replace. -/
theorem replace_any (w : World) (base : Nat) (v : Value) (es : List En) (ho : OwnEn w base v es) (i j : Nat) (hi : i < j) (hj : j ≤ es.length) (base2 : Nat) (A : Option Addr) (c : Nat) (l : List En) (hs : OwnEn w base2 (.slice A l.length c) l) (hne : ∀ g, v.ownBlock = some g → (Value.slice A l.length c).ownBlock ≠ some g) (hp : A ≠ none → l ≠ []) (hb : base ≤ w.heap.size) (hn : es.length ≤ 1000) (hll : l.length ≤ 1000) :
    Calls Tryd.prog 61 #[v, .int .i64 (i : Nat), .int .i64 (j : Nat), .slice A l.length c] w fun x w' => ∃ v', x = .returned v' ∧ OwnEn w' base v' (es.take i ++ l ++ es.drop j) ∧ w.grownBy w' v.ownBlock := by
  rcases ho.held with ⟨rfl, rfl⟩ | ⟨g, cap, rest, rfl, hg, hh, hl, hc⟩
  · simp at hj; omega
  have src : Src w g A l := src_of hs (hne g rfl) hp
  have hsl : ∀ a, A = some a → a.block < w.heap.size := fun a ha => by
    obtain ⟨_, _, cs, h, _⟩ := src.block a ha
    exact h.lt
  by_cases c1 : j = es.length
  · subst c1
    rw [List.drop_length, List.append_nil]
    rcases Nat.lt_or_ge (i + l.length) es.length with h | h
    · exact replace_end w base g cap es rest hh hl hc hg i hi A c l src h hn
    · exact replace_end2 w base g cap es rest hh hl hc hg hb i hi A c l src h hn hll
  · rcases Nat.lt_or_ge cap (i + l.length + (es.length - j)) with h | h
    · exact replace_grow w base g cap es rest hh hl hc hb i j hi (by omega) A c l src hsl h hn hll
    · rcases Nat.lt_or_ge j (i + l.length) with h2 | h2
      · exact replace_shift w base g cap es rest hh hl hc hg i j hi (by omega) A c l src h2 h hn hll
      · exact replace_place w base g cap es rest hh hl hc hg i j hi (by omega) A c l src h2 hn
end Go.Proofs.YtnogmgnbhcmajaaDoor
