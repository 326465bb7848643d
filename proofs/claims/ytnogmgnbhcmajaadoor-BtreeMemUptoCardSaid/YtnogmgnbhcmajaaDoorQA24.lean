/-
  btree: slices.Delete of one entry; slices.Grow and Concat of entries. · btree: slices.Grow and slices.Concat of entries.
-/
import Derived.Test.YtnogmgnbhcmajaaDoorQA23
namespace Go.Proofs.YtnogmgnbhcmajaaDoor
open Go.RowKit Wal

set_option maxRecDepth 100000 in
set_option maxHeartbeats 1600000 in
theorem delete_mid (w : World) (base : Nat) (v : Value) (es : List En) (ho : OwnEn w base v es) (i : Nat) (hi : i + 1 < es.length) (hn : es.length ≤ 1000) :
    Calls Tryd.prog 31 #[v, .int .i64 (i : Nat), .int .i64 ((i : Int) + 1)] w fun x w' => ∃ v', x = .returned v' ∧ OwnEn w' base v' (es.take i ++ es.drop (i + 1)) ∧ w.grownBy w' v.ownBlock := by
  rcases ho.held with ⟨rfl, rfl⟩ | ⟨g, cap, rest, rfl, hg, hh, hl, hc⟩
  · simp at hi
  have lm : cap ≤ 9223372036854775807 := hc
  obtain ⟨n, hn0⟩ : ∃ n, n = es.length := ⟨_, rfl⟩
  have HN := Lib.hid hn0
  rw [← hn0] at hi hn ⊢
  clear hn0 ho
  have ec : n ≤ cap := by rw [List.length_append, rowEn_length, ← HN.out] at hl; omega
  have lt : (es.take i).length = i := by rw [List.length_take, ← HN.out]; omega
  have ld : (es.drop (i + 1)).length = n - (i + 1) := by rw [List.length_drop, ← HN.out]
  have ltr : (rowEn (es.take i)).length = i * 2 := by rw [rowEn_length, lt]
  have ldr : (rowEn (es.drop (i + 1))).length = (n - (i + 1)) * 2 := by rw [rowEn_length, ld]
  obtain ⟨i0, hi0, hz0, hs0, hb0⟩ := info_parts infoEn
  have hd : EHeld w.drew g (rowEn es ++ rest) := hh
  have hap : ∀ ty c, (Builtin.append_ #[74, 74] ty #[.slice (some ⟨g, 0, none⟩) i cap, .slice (some ⟨g, (i + 1) * 2, none⟩) (n - (i + 1)) c]).run Tryd.prog w.drew = .ok (.slice (some ⟨g, 0, none⟩) (i + (n - (i + 1))) cap) (w.drew.setCells g (i * 2) (rowEn (es.drop (i + 1)))) := fun ty c => by
    have := run_append_room_cells (P := Tryd.prog) w.drew 74 ty 77 i0 Tryd.underlying74 hi0 g 0 i cap ⟨g, (i + 1) * 2, none⟩ (n - (i + 1)) c (rowEn (es.drop (i + 1))) (by rw [ldr, hs0]) (fun j u hj => by
      have hp : 0 < (es.drop (i + 1)).length := by
        have := (List.getElem?_eq_some_iff.1 hj).1
        omega
      obtain ⟨g', off, e, _, hcc⟩ := row_from hd (i + 1) hp
      cases e
      rw [WideShapes.add_plain]
      exact hcc j u hj) (rowEn_one _) (by omega) (fun j hj => by rw [hs0, Nat.zero_add, hd.cell_, List.getElem?_eq_getElem (by rw [hl]; omega)]; rfl) (fun j hj => Held.frozen hd _)
    rw [hs0, Nat.zero_add] at this
    exact this
  have sp1 : i * 2 + (rowEn (es.drop (i + 1))).length ≤ (rowEn es ++ rest).length := by rw [hl]; omega
  have h1 := hd.set_ _ _ sp1
  have o1 : Only [g] w (w.drew.setCells g (i * 2) (rowEn (es.drop (i + 1)))) := (Only.refl [g] w).drew.trans (only_cells _ g _ _) (fun x hx => .inl hx)
  obtain ⟨w1, hw1⟩ : ∃ w1, w1 = w.drew.setCells g (i * 2) (rowEn (es.drop (i + 1))) := ⟨_, rfl⟩
  rw [← hw1] at h1 o1 hap
  have len1 := (splice_length sp1).trans hl
  have e1 : splice (rowEn es ++ rest) (i * 2) (rowEn (es.drop (i + 1))) = rowEn (es.take i) ++ rowEn (es.drop (i + 1)) ++ (rowEn (es.drop i) ++ rest).drop (rowEn (es.drop (i + 1))).length := by
    rw [rowEn_cut es rest i, ← ltr, splice_next]
  rw [e1] at h1 len1
  generalize (rowEn (es.drop i) ++ rest).drop (rowEn (es.drop (i + 1))).length = X at h1 len1
  have hcl := fun ty d => run_clear_e h1 ((n - 1) * 2) 1 d (by rw [len1]; omega) (by omega) ty
  have zl : (zerosL 1).length = 2 := zeros_length 1
  have h2 := h1.set_ ((n - 1) * 2) (zerosL 1) (by rw [len1, zl]; omega)
  have o2 : Only [g] w (w1.setCells g ((n - 1) * 2) (zerosL 1)) := o1.trans (only_cells w1 g _ _) (fun x hx => .inl hx)
  have len2 := (splice_length (cur := rowEn (es.take i) ++ rowEn (es.drop (i + 1)) ++ X) (o := (n - 1) * 2) (vs := zerosL 1) (by rw [len1, zl]; omega)).trans len1
  obtain ⟨Y, hY⟩ := keep_gen (P := rowEn (es.take i) ++ rowEn (es.drop (i + 1))) (Y := X) (Z := zerosL 1) (o := (n - 1) * 2) (by rw [List.length_append]; omega)
  rw [hY] at h2 len2
  have FIN0 : OwnEn (w1.setCells g ((n - 1) * 2) (zerosL 1)) base (.slice (some ⟨g, 0, none⟩) (n - 1) cap) (es.take i ++ es.drop (i + 1)) ∧ w.grownBy (w1.setCells g ((n - 1) * 2) (zerosL 1)) (some g) := by
    have := own_place (base := base) (cap := cap) (A := es.take i) (V := es.drop (i + 1)) (C := []) (by simpa [rowEn] using h2) o2 (by simpa [rowEn] using len2) hc hg
    rw [lt, ld] at this
    simpa [show i + (n - (i + 1)) = n - 1 by omega] using this
  have FIN := Lib.hid FIN0
  have ei : i + (n - (i + 1)) = n - 1 := by omega
  rw [ei] at hap
  have q1 : ¬ (i : Int) = (i : Int) + 1 := by omega
  have q2 : (0 : Int) ≤ (i : Int) + 1 := by omega
  have q3 : ((i : Int) + 1).toNat = i + 1 := by omega
  have q4 : (i : Int) + 1 ≤ (n : Int) := by omega
  have q5 : ¬ cap = n - 1 := by omega
  have q6 : n - 1 ≤ n := by omega
  have q7 : n - (n - 1) = 1 := by omega
  have q8 : (i : Int) ≤ (n : Int) := by omega
  have q9 : (i : Int) ≤ (i : Int) + 1 := by omega
  have q10 : ((n - 1 : Nat) : Int) ≤ (n : Int) := by omega
  have q11 : i + 1 ≤ n := by omega
  have q12 : i ≤ cap := by omega
  have q13 : ¬ cap = i + 1 := by omega
  have q14 : ¬ cap = i := by omega
  clear hh hd h1 o1 h2 o2 len1 len2 hl ltr lt ld ldr sp1 e1 zl hw1 hY FIN0
  go_enter Tryd.func31, Tryd.ntmps31
  go_wp2_with fail
  go_region_law (refine step_append_run rfl _ _ 74 74 rfl _ _ (by simp [Act.eval, Act.put]) (by simp [Act.eval, Act.put]) (hap _ (cap - (i + 1))) ?_)
  go_wp2_with fail
  go_ret
  exact ⟨_, rfl, FIN.out⟩
set_option maxRecDepth 100000 in
set_option maxHeartbeats 1600000 in
theorem delete_last (w : World) (base : Nat) (v : Value) (es : List En) (ho : OwnEn w base v es) (i : Nat) (hi : es.length = i + 1) (hn : es.length ≤ 1000) :
    Calls Tryd.prog 31 #[v, .int .i64 (i : Nat), .int .i64 ((i : Int) + 1)] w fun x w' => ∃ v', x = .returned v' ∧ OwnEn w' base v' (es.take i) ∧ w.grownBy w' v.ownBlock := by
  rcases ho.held with ⟨rfl, rfl⟩ | ⟨g, cap, rest, rfl, hg, hh, hl, hc⟩
  · simp at hi
  have lm : cap ≤ 9223372036854775807 := hc
  rw [hi] at hn ⊢
  have ec : i + 1 ≤ cap := by rw [List.length_append, rowEn_length, hi] at hl; omega
  have lt : (es.take i).length = i := by rw [List.length_take, hi]; omega
  have ltr : (rowEn (es.take i)).length = i * 2 := by rw [rowEn_length, lt]
  obtain ⟨i0, hi0, hz0, hs0, hb0⟩ := info_parts infoEn
  have hd : EHeld w.drew g (rowEn es ++ rest) := hh
  have hap : ∀ ty a c, (Builtin.append_ #[74, 74] ty #[.slice (some ⟨g, 0, none⟩) i cap, .slice (some a) 0 c]).run Tryd.prog w.drew = .ok (.slice (some ⟨g, 0, none⟩) i cap) w.drew := fun ty a c => by
    have := run_append_room_cells (P := Tryd.prog) w.drew 74 ty 77 i0 Tryd.underlying74 hi0 g 0 i cap a 0 c [] (by simp) (fun j u hj => by simp at hj) (fun u hu => by cases hu) (by omega) (fun j hj => by simp at hj) (fun j hj => Held.frozen hd _)
    simpa [World.setCells] using this
  have hcl := fun ty d => run_clear_e hd (i * 2) 1 d (by rw [hl]; omega) (by omega) ty
  have zl : (zerosL 1).length = 2 := zeros_length 1
  have h2 := hd.set_ (i * 2) (zerosL 1) (by rw [hl, zl]; omega)
  have o2 : Only [g] w (w.drew.setCells g (i * 2) (zerosL 1)) := (Only.refl [g] w).drew.trans (only_cells _ g _ _) (fun x hx => .inl hx)
  have len2 := (splice_length (cur := rowEn es ++ rest) (o := i * 2) (vs := zerosL 1) (by rw [hl, zl]; omega)).trans hl
  rw [rowEn_cut es rest i] at h2 len2
  obtain ⟨Y, hY⟩ := keep_gen (P := rowEn (es.take i)) (Y := rowEn (es.drop i) ++ rest) (Z := zerosL 1) (o := i * 2) (by omega)
  rw [hY] at h2 len2
  have FIN0 : OwnEn (w.drew.setCells g (i * 2) (zerosL 1)) base (.slice (some ⟨g, 0, none⟩) i cap) (es.take i) ∧ w.grownBy (w.drew.setCells g (i * 2) (zerosL 1)) (some g) := by
    have := own_place (base := base) (cap := cap) (A := es.take i) (V := []) (C := []) (by simpa [rowEn] using h2) o2 (by simpa [rowEn] using len2) hc hg
    rw [lt] at this
    simpa using this
  have FIN := Lib.hid FIN0
  have q1 : ¬ (i : Int) = (i : Int) + 1 := by omega
  have q2 : (0 : Int) ≤ (i : Int) + 1 := by omega
  have q3 : ((i : Int) + 1).toNat = i + 1 := by omega
  have q9 : (i : Int) ≤ (i : Int) + 1 := by omega
  have q12 : i ≤ cap := by omega
  have q14 : ¬ cap = i := by omega
  clear hh hd h2 o2 len2 hl ltr lt zl hY FIN0 hi ho
  by_cases hcc : cap = i + 1
  all_goals
    (try subst hcc)
    go_enter Tryd.func31, Tryd.ntmps31
    go_wp2_with fail
    go_region_law (refine step_append_run rfl _ _ 74 74 rfl _ _ (by simp [Act.eval, Act.put]) (by simp [Act.eval, Act.put]) (hap _ _ _) ?_)
    go_wp2_with fail
    go_ret
    exact ⟨_, rfl, FIN.out⟩
/-- slices.Delete of one entry. -/
theorem delete_any (w : World) (base : Nat) (v : Value) (es : List En) (ho : OwnEn w base v es) (i : Nat) (hi : i < es.length) (hn : es.length ≤ 1000) :
    Calls Tryd.prog 31 #[v, .int .i64 (i : Nat), .int .i64 ((i : Int) + 1)] w fun x w' => ∃ v', x = .returned v' ∧ OwnEn w' base v' (es.take i ++ es.drop (i + 1)) ∧ w.grownBy w' v.ownBlock := by
  rcases Nat.lt_or_ge (i + 1) es.length with h | h
  · exact delete_mid w base v es ho i h hn
  · rw [List.drop_eq_nil_of_le h, List.append_nil]
    exact delete_last w base v es ho i (by omega) hn
end Go.Proofs.YtnogmgnbhcmajaaDoor

namespace Go.Proofs.YtnogmgnbhcmajaaDoor
open Go.RowKit Wal

set_option maxRecDepth 100000 in
set_option maxHeartbeats 1600000 in
theorem grow_any (w : World) (k : Nat) (h0 : 0 < k) (hk : k ≤ 2000) :
    Calls Tryd.prog 84 #[.slice none 0 0, .int .i64 (k : Nat)] w fun x w' => ∃ v', x = .returned v' ∧ OwnEn w' w.heap.size v' [] ∧ Below w.heap.size w w' := by
  obtain ⟨i0, hi0, hz0, hs0, hb0⟩ := info_parts infoEn
  have hap := fun ty => Lib.run_append_nil_zeros (P := Tryd.prog) w 74 3 ty 77 i0 (.agg #[.string ⟨#[]⟩, .string ⟨#[]⟩]) .i64 .i64 Tryd.underlying74 Tryd.underlying3 hi0 hz0 k h0 (by omega) (by omega) (by rw [hb0]; omega)
  obtain ⟨c2, hc2⟩ : ∃ c2, c2 = grownCap w k 0 77 := ⟨_, rfl⟩
  have c2a : k ≤ c2 := by rw [hc2]; exact grownCap_ge _ _ _ _
  have c2b : c2 ≤ maxLen := by rw [hc2]; exact grownCap_le_maxLen _ _ _ _ (by unfold maxLen; omega)
  obtain ⟨w1, hw1⟩ : ∃ w1, w1 = w.drew.alloc (.cells (Builtin.zeroCells (Value.agg #[.string ⟨#[]⟩, .string ⟨#[]⟩]).cells k ++ Builtin.zeroCells (Value.agg #[.string ⟨#[]⟩, .string ⟨#[]⟩]).cells (grownCap w k 0 77 - k)) 77) := ⟨_, rfl⟩
  obtain ⟨b, hb1⟩ : ∃ b, b = w.heap.size := ⟨_, rfl⟩
  have FIN : Hid (OwnEn w1 w.heap.size (.slice (some ⟨b, 0, none⟩) 0 c2) [] ∧ Below w.heap.size w w1) := by
    refine ⟨?_, ?_⟩
    · have hh : EHeld w1 b (rowEn [] ++ ((Builtin.zeroCells (Value.agg #[.string ⟨#[]⟩, .string ⟨#[]⟩]).cells k).toList ++ (Builtin.zeroCells (Value.agg #[.string ⟨#[]⟩, .string ⟨#[]⟩]).cells (grownCap w k 0 77 - k)).toList)) := by
        rw [hw1]
        have e : ∀ x y : Array Value, x ++ y = (rowEn [] ++ (x.toList ++ y.toList)).toArray := fun x y => by
          apply Array.toList_inj.1
          simp [rowEn]
        rw [e]
        exact Held.new _ _ _ hb1
      exact hh.own (cap := c2) (by simp only [rowEn, List.flatMap_nil, List.nil_append, List.length_append, zeros_length]; omega) c2b (by omega)
    · rw [hw1]; exact (show Below w.heap.size w w.drew from ⟨rfl, rfl, rfl, Nat.le_refl _, fun _ _ => rfl⟩).alloc (Nat.le_refl _) _
  rw [← hw1, ← hc2, ← hb1] at hap
  have HAP := Lib.hid hap
  have q1 : ¬ (k : Int) < 0 := by omega
  have q2 : (0 : Int) < (k : Int) := by omega
  clear hw1 hc2 hb1 hap
  go_enter Tryd.func84, Tryd.ntmps84
  go_wp2_with (at_builtin; refine Lib.wpList_append_run _ rfl (o := ⟨some 22, _, _, _, _, _⟩) (.tmp 20) (.tmp 21) 74 3 rfl _ _ rfl rfl _ _ (HAP.out _) ?_)
  go_ret
  exact ⟨_, rfl, FIN.out⟩
theorem OwnEn.grown {base : Nat} {v : Value} {l : List En} {a w w' : World} (ho : OwnEn w base v l) (hb : Below base a w) (hg : w.grownBy w' v.ownBlock) (hs : base ≤ w.heap.size) : Below base a w' :=
  hb.trans ⟨hg.os, hg.tape, hg.output, hg.size, fun k hk => hg.block k (by omega) (fun e => by
    have := (ho.lt k e.symm).1
    omega)⟩
/-- Two slices of entries, one behind the other, in a block of their own. -/
def TwoEn (w : World) (vb : Nat) (A1 : Option Addr) (n1 c1 : Nat) (A2 : Option Addr) (n2 c2 : Nat) : Prop := Held w vb 74 #[.slice A1 n1 c1, .slice A2 n2 c2]
set_option maxRecDepth 100000 in
set_option maxHeartbeats 1600000 in
theorem concat_any (w : World) (vb : Nat) (A1 : Option Addr) (c1 : Nat) (A2 : Option Addr) (c2 : Nat) (l1 l2 : List En) (hv : TwoEn w vb A1 l1.length c1 A2 l2.length c2) (h1 : EAt w A1 l1) (h2 : EAt w A2 l2) (hp : 0 < l1.length + l2.length) (n1 : l1.length ≤ 500) (n2 : l2.length ≤ 500) :
    Calls Tryd.prog 69 #[.slice (some ⟨vb, 0, none⟩) 2 2] w fun x w' => ∃ v', x = .returned v' ∧ OwnEn w' w.heap.size v' (l1 ++ l2) ∧ Below w.heap.size w w' := by
  have HV := Lib.hid hv
  have H1 := Lib.hid h1
  have H2 := Lib.hid h2
  have z0 : w.cell? ⟨vb, 0, none⟩ = some (.slice A1 l1.length c1) := Held.cell hv 0
  have z1 : w.cell? ⟨vb, 1, none⟩ = some (.slice A2 l2.length c2) := Held.cell hv 1
  obtain ⟨m1, hm1⟩ : ∃ m, m = l1.length := ⟨_, rfl⟩
  obtain ⟨m2, hm2⟩ : ∃ m, m = l2.length := ⟨_, rfl⟩
  have M1 := Lib.hid hm1
  have M2 := Lib.hid hm2
  have HB : Hid (Below w.heap.size w w) := Below.refl _ _
  rw [← hm1] at hp n1 z0
  rw [← hm2] at hp n2 z1
  have GR := Lib.hid (grow_any w (m1 + m2) hp (by omega))
  have q1 : ¬ (m1 : Int) < 0 := by omega
  have q2 : ¬ (m1 : Int) + (m2 : Int) < 0 := by omega
  have q3 : ((m1 + m2 : Nat) : Int) = (m1 : Int) + (m2 : Int) := by omega
  rw [q3] at GR
  clear hv h1 h2 hm1 hm2 q3
  go_enter Tryd.func69, Tryd.ntmps69
  go_wp2_with fail
  go_loop [3, 11] (fun s i => (s = .int .i64 0 ∧ i = .int .i64 0) ∨ (s = .int .i64 m1 ∧ i = .int .i64 1) ∨ (s = .int .i64 ((m1 : Int) + (m2 : Int)) ∧ i = .int .i64 2)) (fun _ i => 2 - (intOf i).toNat)
  case atStart => exact .inl ⟨rfl, rfl⟩
  case round =>
    rcases hrel with ⟨rfl, rfl⟩ | ⟨rfl, rfl⟩ | ⟨rfl, rfl⟩
    · clear GR
      go_wp2_with fail
      go_round
      case rel => exact .inr (.inl ⟨by go_num, rfl⟩)
      case measure => simp [intOf]
    · clear GR
      go_wp2_with fail
      go_round
      case rel => exact .inr (.inr ⟨rfl, rfl⟩)
      case measure => simp [intOf]
    · go_wp2_with fail
      refine GR.out.mono ?_
      rintro e w2 ⟨v2, rfl, ho2, hb2⟩
      have O2 := Lib.hid ho2
      have B2 := Lib.hid hb2
      clear ho2 hb2 z0 z1 GR
      go_wp2_with fail
      go_loopw [6, 27] (fun v i wr => (i = .int .i64 0 ∧ Hid (OwnEn wr w.heap.size v [] ∧ Below w.heap.size w wr)) ∨ (i = .int .i64 1 ∧ Hid (OwnEn wr w.heap.size v l1 ∧ Below w.heap.size w wr)) ∨ (i = .int .i64 2 ∧ Hid (OwnEn wr w.heap.size v (l1 ++ l2) ∧ Below w.heap.size w wr))) (fun _ i _ => 2 - (intOf i).toNat)
      case atStart => exact .inl ⟨rfl, O2.out, B2.out⟩
      case round =>
        rcases hrel with ⟨rfl, R⟩ | ⟨rfl, R⟩ | ⟨rfl, R⟩
        · have z0 : wr.cell? ⟨vb, 0, none⟩ = some (.slice A1 m1 c1) := by rw [M1.out]; exact Held.cell (Held.below HV.out R.out.2 HV.out.lt) 0
          have RO : Hid (OwnEn wr w.heap.size _ []) := R.out.1
          have RB : Hid (Below w.heap.size w wr) := R.out.2
          have SZ : Hid (w.heap.size ≤ wr.heap.size) := RB.out.size
          have A1' := Lib.hid (H1.out.below RB.out)
          obtain ⟨A3, c3, hv3, _, _⟩ := RO.out.any
          subst hv3
          clear R
          go_wp2_with (at_builtin; refine wpList_append_e rfl (o := ⟨some 33, _, _, _, _, _⟩) (.tmp 31) (.tmp 32) rfl w.heap.size _ _ rfl RO.out A1 m1 c1 l1 rfl M1.out.symm A1'.out (by simp; omega) SZ.out ?_; intro v4 w4 hown4 hg4; have F : Hid (OwnEn w4 w.heap.size v4 l1 ∧ Below w.heap.size w w4) := ⟨by rw [List.nil_append] at hown4; exact hown4, RO.out.grown RB.out hg4 SZ.out⟩; clear hown4 hg4)
          go_roundw
          case rel => exact .inr (.inl ⟨rfl, F⟩)
          case measure => simp [intOf]
        · have z1 : wr.cell? ⟨vb, 1, none⟩ = some (.slice A2 m2 c2) := by rw [M2.out]; exact Held.cell (Held.below HV.out R.out.2 HV.out.lt) 1
          have RO : Hid (OwnEn wr w.heap.size _ l1) := R.out.1
          have RB : Hid (Below w.heap.size w wr) := R.out.2
          have SZ : Hid (w.heap.size ≤ wr.heap.size) := RB.out.size
          have A2' := Lib.hid (H2.out.below RB.out)
          obtain ⟨A3, c3, hv3, _, _⟩ := RO.out.any
          subst hv3
          clear R
          go_wp2_with (at_builtin; refine wpList_append_e rfl (o := ⟨some 33, _, _, _, _, _⟩) (.tmp 31) (.tmp 32) rfl w.heap.size _ _ rfl RO.out A2 m2 c2 l2 rfl M2.out.symm A2'.out (by rw [← M1.out]; omega) SZ.out ?_; intro v4 w4 hown4 hg4; have F : Hid (OwnEn w4 w.heap.size v4 (l1 ++ l2) ∧ Below w.heap.size w w4) := ⟨hown4, RO.out.grown RB.out hg4 SZ.out⟩; clear hown4 hg4)
          go_roundw
          case rel => exact .inr (.inr ⟨rfl, F⟩)
          case measure => simp [intOf]
        · have RO : Hid (OwnEn wr w.heap.size _ (l1 ++ l2)) := R.out.1
          have RB : Hid (Below w.heap.size w wr) := R.out.2
          clear R
          go_wp2_with fail
          go_ret
          exact ⟨_, rfl, RO.out, RB.out⟩
end Go.Proofs.YtnogmgnbhcmajaaDoor
