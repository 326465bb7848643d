/-
  docketref06: pairs in order: Get. · docketref06: Delete. · docketref06: Put.
-/
import Derived.Test.YtldmllmkckklhaaGreatDoorQA63
import Derived.Laws.Cover1
namespace Go.Proofs.YtldmllmkckklhaaGreatDoor
open Go.RowKit Wal

/-- The document's pairs, behind a pointer. -/
structure RefP (w : World) (base r : Nat) (l : List En) (A : Option Addr) (c : Nat) : Prop where
  blk : Held w r 31 #[.slice A l.length c]
  own : OwnP w base (.slice A l.length c) l
theorem OwnP.at_ {w : World} {base : Nat} {A : Option Addr} {m c : Nat} {l : List En} (h : OwnP w base (.slice A m c) l) : m = l.length ∧ PAt w A l := by
  obtain ⟨A', c', e, _, h1⟩ := h.any
  injection e with e1 e2 _
  subst e1 e2
  exact ⟨rfl, h1⟩
theorem getE_drop {l : List En} {k : List Nat} {j : Nat} (hj : j < l.length) : getE (l.drop j) k = if l[j].1 = k then some l[j].2 else getE (l.drop (j + 1)) k := by
  rw [List.drop_eq_getElem_cons hj]
  unfold getE
  rw [List.find?_cons]
  by_cases c : l[j].1 = k
  · simp [c]
  · simp [c]
set_option maxRecDepth 100000 in
set_option maxHeartbeats 1600000 in
theorem rget_any (w : World) (base r : Nat) (l : List En) (A : Option Addr) (c : Nat) (h : RefP w base r l A c) (hb : ∀ e ∈ l, ∀ x ∈ e.1, x < 256) (hl : l.length ≤ 50000) (k : List Nat) (hk8 : ∀ x ∈ k, x < 256) :
    Calls Tryz.prog 26 #[.pointer (some ⟨r, 0, none⟩), .string (strB k)] w fun x w' => GetR l k x ∧ w = w' := by
  have PA := Lib.hid (h.own.at_.2)
  have HB := Lib.hid hb
  have K8 := Lib.hid hk8
  have c0 := h.blk.cell 0
  have lt := h.blk.lt
  have HL : Hid (l.length ≤ 50000) := hl
  obtain ⟨m, hm⟩ : ∃ m, m = l.length := ⟨_, rfl⟩
  rw [← hm] at c0
  have HM := Lib.hid hm
  clear h hb hk8 hl hm
  go_enter Tryz.func26, Tryz.ntmps26
  go_wp2_with fail
  go_loopw [6] (fun i wr => ∃ j : Nat, j ≤ l.length ∧ i = .int .i64 j ∧ wr = w ∧ Hid (getE l k = getE (l.drop j) k)) (fun i _ => l.length - (intOf i).toNat)
  case atStart => exact ⟨0, by omega, rfl, rfl, by show _ = _; rw [List.drop_zero]⟩
  case round =>
    obtain ⟨j, hj, rfl, rfl, G⟩ := hrel
    have hm := HM.out
    have hl := HL.out
    by_cases hlt : j < l.length
    · obtain ⟨g, off, rfl, x0, x1⟩ := PA.out.at_ hlt
      have EQ := eq_strB (HB.out _ (List.getElem_mem hlt)) K8.out
      have GD := Lib.hid (getE_drop (k := k) hlt)
      have jm : (j : Int) < (m : Int) := by omega
      generalize l[j].1 = kx at *
      generalize l[j].2 = vx at *
      by_cases e : kx = k
      · rw [decide_eq_true e] at EQ
        have R : Hid (GetR l k (.returned (.tuple #[.string (strB vx), .bool true]))) := by
          show GetR _ _ _
          unfold GetR
          rw [G.out, GD.out, if_pos e]
        clear e hm hl GD
        go_wp2_with fail
        go_ret2
        exact ⟨R.out, rfl⟩
      · rw [decide_eq_false e] at EQ
        have G2 : Hid (getE l k = getE (l.drop (j + 1)) k) := by
          show _ = _
          rw [G.out, GD.out, if_neg e]
        have lim : (j : Int) ≤ 50000 := by omega
        clear e hm GD
        go_wp2_with fail
        go_roundw
        case rel => exact ⟨j + 1, by omega, by go_num, by first | rfl | trivial, G2.out⟩
        case measure => simp [intOf]; omega
    · have jm : ¬ (j : Int) < (m : Int) := by omega
      have R : Hid (GetR l k (.returned (.tuple #[.string ⟨#[]⟩, .bool false]))) := by
        show GetR _ _ _
        unfold GetR
        rw [G.out, List.drop_eq_nil_of_le (by omega)]
        rfl
      clear hm hl
      go_wp2_with fail
      go_ret2
      exact ⟨R.out, rfl⟩
end Go.Proofs.YtldmllmkckklhaaGreatDoor

namespace Go.Proofs.YtldmllmkckklhaaGreatDoor
open Go.RowKit Wal

theorem filter_delE {k : List Nat} : ∀ {l : List En}, Rises l → l.filter (fun e => decide (e.1 ≠ k)) = delE l k
  | [], _ => rfl
  | x :: r, h => by
    obtain ⟨h1, h2⟩ := List.pairwise_cons.1 h
    have ih := filter_delE (k := k) h2
    rcases ltB_total x.1 k with hx | hx | hx
    · have hy := ltB_asymm hx
      have hn : x.1 ≠ k := fun e => by rw [e, ltB_irrefl] at hx; cases hx
      unfold delE under over at ih ⊢
      simp only [List.filter_cons, hx, hy, hn, if_true, Bool.false_eq_true, if_false, List.cons_append, ne_eq, not_false_eq_true, decide_true]
      rw [← ih]
    · have hr : ∀ e ∈ r, ltB k e.1 = true := fun e he => by rw [← hx]; exact h1 e he
      have h3 : r.filter (fun e => decide (e.1 ≠ k)) = r := List.filter_eq_self.2 fun e he => by
        have := hr e he
        exact decide_eq_true fun e2 => by rw [e2, ltB_irrefl] at this; cases this
      have h4 : delE (x :: r) k = r := by
        unfold delE under over
        rw [List.filter_cons, List.filter_cons]
        simp only [hx, ltB_irrefl, Bool.false_eq_true, if_false]
        have e1 := under_none hr
        have e2 := over_all hr
        unfold under at e1
        unfold over at e2
        rw [e1, e2]
        rfl
      rw [h4, List.filter_cons]
      simp only [hx, ne_eq, not_true_eq_false, decide_false, Bool.false_eq_true, if_false]
      simpa using h3
    · have hr : ∀ e ∈ x :: r, ltB k e.1 = true := fun e he => by
        rcases List.mem_cons.1 he with rfl | he
        · exact hx
        · exact ltB_trans hx (h1 e he)
      have h3 : (x :: r).filter (fun e => decide (e.1 ≠ k)) = x :: r := List.filter_eq_self.2 fun e he => by
        have := hr e he
        exact decide_eq_true fun e2 => by rw [e2, ltB_irrefl] at this; cases this
      rw [h3]
      unfold delE
      rw [under_none hr, over_all hr]
      rfl
theorem hasK_len (l : List En) (k : List Nat) : hasK l k = decide ((l.filter (fun e => decide (e.1 ≠ k))).length < l.length) := by
  unfold hasK
  refine decide_eq_decide.2 ?_
  rw [List.length_filter_lt_length_iff_exists]
  simp
theorem take_filter {l : List En} {p : En → Bool} {j : Nat} (hj : j < l.length) : (l.take (j + 1)).filter p = (l.take j).filter p ++ if p l[j] = true then [l[j]] else [] := by
  rw [List.take_succ_eq_append_getElem hj, List.filter_append]
  congr 1
  rw [List.filter_cons]
  rfl
theorem OwnP.base_ {w : World} {base base' : Nat} {v : Value} {l : List En} (h : OwnP w base v l) (hb : base' ≤ base) : OwnP w base' v l :=
  ⟨h.1, h.2.imp id fun ⟨g, cap, cur, a1, a2, a3⟩ => ⟨g, cap, cur, a1, Nat.le_trans hb a2, a3⟩⟩
set_option maxRecDepth 100000 in
set_option maxHeartbeats 1600000 in
theorem rdel_any (w : World) (base r : Nat) (l : List En) (A : Option Addr) (c : Nat) (h : RefP w base r l A c) (hbr : base ≤ r) (hb : ∀ e ∈ l, ∀ x ∈ e.1, x < 256) (hl : l.length ≤ 50000) (hr : Rises l) (k : List Nat) (hk8 : ∀ x ∈ k, x < 256) :
    Calls Tryz.prog 29 #[.pointer (some ⟨r, 0, none⟩), .string (strB k)] w fun x w' => x = .returned (.bool (hasK l k)) ∧ (∃ A' c', RefP w' base r (delE l k) A' c') ∧ KpS [31] base w w' := by
  have PA := Lib.hid (h.own.at_.2)
  have BK := Lib.hid h.blk
  have HB := Lib.hid hb
  have K8 := Lib.hid hk8
  have lt := h.blk.lt
  have HBR := Lib.hid hbr
  have HL : Hid (l.length ≤ 50000) := hl
  obtain ⟨m, hm⟩ : ∃ m, m = l.length := ⟨_, rfl⟩
  rw [← hm] at BK
  have HM := Lib.hid hm
  obtain ⟨p, hp⟩ : ∃ p : En → Bool, p = fun e => decide (e.1 ≠ k) := ⟨_, rfl⟩
  have HP := Lib.hid hp
  have FD : Hid (l.filter p = delE l k) := by rw [hp]; exact filter_delE hr
  have HK : Hid (hasK l k = decide ((l.filter p).length < l.length)) := by rw [hp]; exact hasK_len l k
  clear h hb hk8 hl hm hp hr hbr
  go_enter Tryz.func29, Tryz.ntmps29
  go_wp2_with fail
  go_loopw [5, 6] (fun va i wr => ∃ (j : Nat) (A' : Option Addr) (c' : Nat), j ≤ l.length ∧ i = .int .i64 j ∧ va = .slice A' ((l.take j).filter p).length c' ∧ Hid (OwnP wr w.heap.size (.slice A' ((l.take j).filter p).length c') ((l.take j).filter p) ∧ Below w.heap.size w wr)) (fun _ i _ => l.length - (intOf i).toNat)
  case atStart => exact ⟨0, none, 0, by omega, rfl, rfl, OwnP.nil _ _, Below.refl _ _⟩
  case round =>
    obtain ⟨j, A', c', hj, rfl, rfl, G⟩ := hrel
    have hm := HM.out
    have hl := HL.out
    have BR := Lib.hid (BK.out.below G.out.2 BK.out.lt)
    have c0 := BR.out.cell 0
    have lr := BR.out.lt
    by_cases hlt : j < l.length
    · obtain ⟨g, off, rfl, x0, x1⟩ := (PA.out.below G.out.2).at_ hlt
      have EQ := eq_strB (HB.out _ (List.getElem_mem hlt)) K8.out
      have TF := Lib.hid (take_filter (p := p) hlt)
      have jm : (j : Int) < (m : Int) := by omega
      have lim : (j : Int) ≤ 50000 := by omega
      have la : ((l.take j).filter p).length ≤ j := Nat.le_trans (List.length_filter_le _ _) (by rw [List.length_take]; omega)
      have PE : p l[j] = !decide (l[j].1 = k) := by rw [HP.out]; simp
      obtain ⟨kx, vx, hkv⟩ : ∃ kx vx, l[j] = (kx, vx) := ⟨_, _, rfl⟩
      rw [hkv] at x0 x1 EQ TF PE
      dsimp only at x0 x1 EQ PE
      generalize (l.take j).filter p = acc at *
      clear hkv
      by_cases e : kx = k
      · rw [decide_eq_true e] at EQ PE
        rw [PE] at TF
        have G2 : Hid ((l.take (j + 1)).filter p = acc) := by
          show _ = _
          rw [TF.out]
          simp
        clear e hm PE TF
        go_wp2_with fail
        go_roundw
        case rel => exact ⟨j + 1, A', c', by omega, by go_num, by rw [G2.out], by rw [G2.out]; exact G.out⟩
        case measure => simp [intOf]; omega
      · rw [decide_eq_false e] at EQ PE
        rw [PE] at TF
        have G2 : Hid ((l.take (j + 1)).filter p = acc ++ [(kx, vx)]) := by
          show _ = _
          rw [TF.out]
          simp
        obtain ⟨w9, hw9⟩ : ∃ w9, w9 = wr.alloc (.cells #[.string (strB kx), .string (strB vx)] 62) := ⟨_, rfl⟩
        have U9 : Hid (Below wr.heap.size wr w9) := by rw [hw9]; exact (Below.refl _ _).alloc (Nat.le_refl _) _
        have P9 := Lib.hid (G.out.1.below_ U9.out)
        have V9 : Hid (PAt w9 (some ⟨wr.heap.size, 0, none⟩) [(kx, vx)]) := fun _ => ⟨wr.heap.size, 0, rfl, by rw [hw9]; simp, fun x u hx => by
          rw [Nat.zero_add, hw9, (Held.new wr 62 #[.string (strB kx), .string (strB vx)] rfl).cell, ← List.getElem?_toArray] at *
          exact hx⟩
        have B9 : Hid (Below w.heap.size w w9) := G.out.2.trans (U9.out.mono G.out.2.size)
        have HW9 := Lib.hid hw9
        have SZ : Hid (acc.length + 1 ≤ 100000) := by show _ ≤ _; omega
        clear e hm PE TF hw9
        go_wp2_with (at_builtin; rw [← HW9.out]; refine wpList_append_p rfl (o := ⟨some 36, _, _, _, _, _⟩) (.tmp 27) (.tmp 35) rfl w.heap.size _ _ rfl P9.out (some ⟨wr.heap.size, 0, none⟩) 1 1 [(kx, vx)] rfl rfl V9.out SZ.out B9.out.size ?_; intro v4 w4 hown4 hg4; have B4 : Hid (Below w.heap.size w w4) := P9.out.grown B9.out hg4 B9.out.size; obtain ⟨A5, c5, rfl, _, _⟩ := hown4.any; have OW4 := Lib.hid hown4; clear hown4 hg4)
        go_roundw
        case rel => exact ⟨j + 1, A5, c5, by omega, by go_num, by rw [G2.out, List.length_append]; rfl, by rw [G2.out]; exact ⟨OW4.out, B4.out⟩⟩
        case measure => simp [intOf]; omega
    · have jm : ¬ (j : Int) < (m : Int) := by omega
      have tj : l.take j = l := List.take_of_length_le (by omega)
      rw [tj] at G ⊢
      have HK2 := HK.out
      rw [← hm] at HK2
      have FIN : Hid (∀ w', w' = wr.setCell ⟨r, 0, none⟩ (.slice A' (l.filter p).length c') → (∃ A' c', RefP w' base r (delE l k) A' c') ∧ KpS [31] base w w') := fun w' hw' => by
        have KS : KpS [31] base wr w' := by rw [hw']; exact (KpS.refl _ _ _).set_ BR.out (by simp) HBR.out 0 _
        refine ⟨⟨A', c', ?_, ?_⟩, (KpS.under G.out.2).trans KS⟩
        · rw [hw', ← FD.out]; exact BR.out.set_ 0 _
        · rw [← FD.out]; exact OwnP.base_ (KS.row G.out.1 (by decide)) (Nat.le_trans HBR.out (Nat.le_of_lt lt))
      have y0 := BR.out.frozen 0
      obtain ⟨m2, hm2⟩ : ∃ m, m = (l.filter p).length := ⟨_, rfl⟩
      rw [← hm2] at HK2 FIN ⊢
      have HKK : Hid (hasK l k = decide (m2 < m)) := HK2
      clear HK2 hm hl hm2 tj HK
      go_wp2_with fail
      go_ret
      exact ⟨by rw [HKK.out]; rfl, FIN.out _ rfl⟩
end Go.Proofs.YtldmllmkckklhaaGreatDoor

namespace Go.Proofs.YtldmllmkckklhaaGreatDoor
open Go.RowKit Wal

theorem under_append (a b : List En) (k : List Nat) : under (a ++ b) k = under a k ++ under b k := List.filter_append ..
theorem over_append (a b : List En) (k : List Nat) : over (a ++ b) k = over a k ++ over b k := List.filter_append ..
theorem put_del (l : List En) (k v : List Nat) : putE (delE l k) k v = putE l k v := by
  unfold putE delE
  rw [under_append, over_append, under_all (fun e he => under_lt he), under_none (fun e he => over_lt he), over_none (fun e he => under_lt he), over_all (fun e he => over_lt he)]
  simp
theorem put_snoc {X : List En} {y : En} {k v : List Nat} (h : ltB k y.1 = true) : putE (X ++ [y]) k v = putE X k v ++ [y] := by
  unfold putE
  rw [under_append, over_append, under_none (es := [y]) (fun e he => by have : e = y := by simpa using he
                                                                        rw [this]; exact h), over_all (es := [y]) (fun e he => by have : e = y := by simpa using he
                                                                                                                                  rw [this]; exact h)]
  simp
theorem put_here {X : List En} {k v : List Nat} (h : ∀ e ∈ X, ltB e.1 k = true) : putE X k v = X ++ [(k, v)] := by
  unfold putE
  rw [under_all h, over_none h]
theorem del_ne {l : List En} {k : List Nat} : ∀ e ∈ delE l k, e.1 ≠ k := fun e he hk => by
  unfold delE at he
  rcases List.mem_append.1 he with he | he
  · have := under_lt he
    rw [hk, ltB_irrefl] at this; cases this
  · have := over_lt he
    rw [hk, ltB_irrefl] at this; cases this
theorem del_mem {l : List En} {k : List Nat} {e : En} (he : e ∈ delE l k) : e ∈ l := by
  unfold delE at he
  rcases List.mem_append.1 he with he | he
  · exact (List.mem_filter.1 he).1
  · exact (List.mem_filter.1 he).1
theorem del_length (l : List En) (k : List Nat) (h : Rises l) : (delE l k).length ≤ l.length := by
  rw [← filter_delE h]
  exact List.length_filter_le _ _
/-- What the loop keeps. -/
structure PutI (D : List En) (k v : List Nat) (w1 wr : World) (j : Nat) (dn : Bool) (acc : List En) (va : Value) : Prop where
  own : OwnP wr w1.heap.size va acc
  under_ : Below w1.heap.size w1 wr
  is_ : acc = if dn = true then putE (D.take j) k v else D.take j
  low : dn = false → ∀ e ∈ D.take j, ltB e.1 k = true
  high : dn = true → ∃ e ∈ D.take j, ltB k e.1 = true
theorem PutI.len {D : List En} {k v : List Nat} {w1 wr : World} {j : Nat} {dn : Bool} {acc : List En} {va : Value} (h : PutI D k v w1 wr j dn acc va) (hD : Rises D) : acc.length ≤ j + 1 := by
  have h1 : (D.take j).length ≤ j := by rw [List.length_take]; omega
  rw [h.is_]
  cases dn with
  | false => simpa using Nat.le_succ_of_le h1
  | true =>
    simp only [if_true]
    have h2 := del_length (D.take j) k (hD.sublist (List.take_sublist _ _))
    unfold delE at h2
    unfold putE
    rw [List.length_append] at h2 ⊢
    rw [List.length_cons]
    omega
theorem pair_row {w w9 : World} {k v : List Nat} (hw9 : w9 = w.alloc (.cells #[.string (strB k), .string (strB v)] 62)) : Below w.heap.size w w9 ∧ PAt w9 (some ⟨w.heap.size, 0, none⟩) [(k, v)] :=
  ⟨by rw [hw9]; exact (Below.refl _ _).alloc (Nat.le_refl _) _, fun _ => ⟨w.heap.size, 0, rfl, by rw [hw9]; simp, fun x u hx => by
    rw [Nat.zero_add, hw9, (Held.new w 62 #[.string (strB k), .string (strB v)] rfl).cell, ← List.getElem?_toArray] at *
    exact hx⟩⟩
set_option maxRecDepth 100000 in
set_option maxHeartbeats 3200000 in
theorem rput_any (w : World) (base r : Nat) (l : List En) (A : Option Addr) (c : Nat) (h : RefP w base r l A c) (hbr : base ≤ r) (hb : ∀ e ∈ l, ∀ x ∈ e.1, x < 256) (hl : l.length ≤ 50000) (hr : Rises l) (k v : List Nat) (hk8 : ∀ x ∈ k, x < 256) :
    Calls Tryz.prog 28 #[.pointer (some ⟨r, 0, none⟩), .string (strB k), .string (strB v)] w fun x w' => x = .returned (.tuple #[]) ∧ (∃ A' c', RefP w' base r (putE l k v) A' c') ∧ KpS [31] base w w' := by
  have DE := Lib.hid (rdel_any w base r l A c h hbr hb hl hr k hk8)
  have K8 := Lib.hid hk8
  have HBR := Lib.hid hbr
  have SZ0 : Hid (base ≤ w.heap.size) := Nat.le_trans hbr (Nat.le_of_lt h.blk.lt)
  obtain ⟨D, hD⟩ : ∃ D, D = delE l k := ⟨_, rfl⟩
  have RD : Hid (Rises D) := by rw [hD]; exact hr.del k
  have HB : Hid (∀ e ∈ D, ∀ x ∈ e.1, x < 256) := by rw [hD]; exact fun e he => hb e (del_mem he)
  have NK : Hid (∀ e ∈ D, e.1 ≠ k) := by rw [hD]; exact del_ne
  have HL : Hid (D.length ≤ 50000) := by rw [hD]; exact Nat.le_trans (del_length l k hr) hl
  have PD : Hid (putE D k v = putE l k v) := by rw [hD]; exact put_del l k v
  rw [← hD] at DE
  clear h hb hk8 hl hr hD hbr
  go_enter Tryz.func28, Tryz.ntmps28
  go_wp2_with fail
  refine DE.out.mono ?_
  rintro x w1 ⟨rfl, ⟨A1, c1, hR⟩, hK⟩
  have PA := Lib.hid (hR.own.at_.2)
  have BK := Lib.hid hR.blk
  have KK := Lib.hid hK
  have lt := hR.blk.lt
  obtain ⟨m, hm⟩ : ∃ m, m = D.length := ⟨_, rfl⟩
  rw [← hm] at BK
  have HM := Lib.hid hm
  clear hR hK hm DE
  go_wp2_with fail
  go_loopw [6, 7, 8] (fun va vd i wr => ∃ (j : Nat) (dn : Bool) (acc : List En) (A' : Option Addr) (c' : Nat), j ≤ D.length ∧ i = .int .i64 j ∧ vd = .bool dn ∧ va = .slice A' acc.length c' ∧ Hid (PutI D k v w1 wr j dn acc (.slice A' acc.length c'))) (fun _ _ i _ => D.length - (intOf i).toNat)
  case atStart => exact ⟨0, false, [], none, 0, by omega, rfl, rfl, rfl, ⟨OwnP.nil _ _, Below.refl _ _, rfl, by simp, by simp⟩⟩
  case round =>
    obtain ⟨j, dn, acc, A', c', hj, rfl, rfl, rfl, G⟩ := hrel
    have hm := HM.out
    have hl := HL.out
    have la := G.out.len RD.out
    have BR := Lib.hid (BK.out.below G.out.under_ BK.out.lt)
    have c0 := BR.out.cell 0
    have lr := BR.out.lt
    by_cases hlt : j < D.length
    · obtain ⟨g, off, rfl, x0, x1⟩ := (PA.out.below G.out.under_).at_ hlt
      have PW := Lib.hid (PA.out.below G.out.under_)
      have hmem := List.getElem_mem hlt
      have EQ := (eq_strB (HB.out _ hmem) K8.out).trans (decide_eq_false (NK.out _ hmem))
      have LS := less_strB (HB.out _ hmem) K8.out
      have TK : Hid (D.take (j + 1) = D.take j ++ [D[j]]) := List.take_succ_eq_append_getElem hlt
      have HI : Hid ((∃ e ∈ D.take j, ltB k e.1 = true) → ltB k D[j].1 = true) := fun ⟨e, he, hx⟩ => by
        have h1 : Rises (D.take (j + 1)) := RD.out.sublist (List.take_sublist _ _)
        rw [TK.out] at h1
        exact ltB_trans hx ((rises_append.1 h1).2.2 e he D[j] (by simp))
      have TT := Lib.hid (ltB_total D[j].1 k)
      have NE := Lib.hid (NK.out _ hmem)
      have jm : (j : Int) < (m : Int) := by omega
      have lim : (j : Int) ≤ 50000 := by omega
      obtain ⟨kx, vx, hkv⟩ : ∃ kx vx, D[j] = (kx, vx) := ⟨_, _, rfl⟩
      rw [hkv] at x0 x1 EQ LS TK HI TT NE
      dsimp only at x0 x1 EQ LS HI TT NE
      have SZ : Hid (acc.length + 2 ≤ 100000) := by show _ ≤ _; omega
      clear hkv hmem hm
      cases dn with
      | true =>
        obtain ⟨acc2, hacc2⟩ : ∃ a, a = if true = true then putE (D.take (j + 1)) k v else D.take (j + 1) := ⟨_, rfl⟩
        have AC2 : Hid (acc ++ [(kx, vx)] = acc2) := by
          show _ = _
          rw [hacc2]
          rw [if_pos rfl, TK.out, put_snoc (HI.out (G.out.high rfl)), G.out.is_]
          rfl
        have IS2 := Lib.hid hacc2
        clear hacc2
        obtain ⟨w9, hw9⟩ : ∃ w9, w9 = wr.alloc (.cells #[.string (strB kx), .string (strB vx)] 62) := ⟨_, rfl⟩
        have U9 := Lib.hid (pair_row hw9)
        have P9 := Lib.hid (G.out.own.below_ U9.out.1)
        have B9 : Hid (Below w1.heap.size w1 w9) := G.out.under_.trans (U9.out.1.mono G.out.under_.size)
        have HW9 := Lib.hid hw9
        clear hw9
        go_wp2_with (at_builtin; rw [← HW9.out]; refine wpList_append_p rfl (o := ⟨some 50, _, _, _, _, _⟩) (.tmp 41) (.tmp 49) rfl w1.heap.size _ _ rfl P9.out (some ⟨wr.heap.size, 0, none⟩) 1 1 [(kx, vx)] rfl rfl U9.out.2 (by have := SZ.out; omega) B9.out.size ?_; intro v4 w4 hown4 hg4; rw [AC2.out] at hown4; have B4 : Hid (Below w1.heap.size w1 w4) := P9.out.grown B9.out hg4 B9.out.size; obtain ⟨A5, c5, rfl, _, _⟩ := hown4.any; have OW4 := Lib.hid hown4; clear hown4 hg4)
        go_roundw
        case rel => exact ⟨j + 1, true, _, A5, c5, by omega, by go_num, rfl, rfl, ⟨OW4.out, B4.out, IS2.out, fun h => (by cases h), fun _ => (G.out.high rfl).imp fun e he => ⟨by rw [TK.out]; exact List.mem_append_left _ he.1, he.2⟩⟩⟩
        case measure => simp [intOf]; omega
      | false =>
        have AC : Hid (acc = D.take j) := G.out.is_
        have LOW := Lib.hid (G.out.low rfl)
        by_cases hlk : ltB kx k = true
        · rw [hlk] at LS
          have HLK := Lib.hid hlk
          clear hlk
          obtain ⟨acc2, hacc2⟩ : ∃ a, a = if false = true then putE (D.take (j + 1)) k v else D.take (j + 1) := ⟨_, rfl⟩
          have AC2 : Hid (acc ++ [(kx, vx)] = acc2) := by
            show _ = _
            rw [hacc2]
            rw [if_neg (by decide), TK.out, AC.out]
          have IS2 := Lib.hid hacc2
          clear hacc2
          obtain ⟨w9, hw9⟩ : ∃ w9, w9 = wr.alloc (.cells #[.string (strB kx), .string (strB vx)] 62) := ⟨_, rfl⟩
          have U9 := Lib.hid (pair_row hw9)
          have P9 := Lib.hid (G.out.own.below_ U9.out.1)
          have B9 : Hid (Below w1.heap.size w1 w9) := G.out.under_.trans (U9.out.1.mono G.out.under_.size)
          have HW9 := Lib.hid hw9
          clear hw9
          go_wp2_with (at_builtin; rw [← HW9.out]; refine wpList_append_p rfl (o := ⟨some 50, _, _, _, _, _⟩) (.tmp 41) (.tmp 49) rfl w1.heap.size _ _ rfl P9.out (some ⟨wr.heap.size, 0, none⟩) 1 1 [(kx, vx)] rfl rfl U9.out.2 (by have := SZ.out; omega) B9.out.size ?_; intro v4 w4 hown4 hg4; rw [AC2.out] at hown4; have B4 : Hid (Below w1.heap.size w1 w4) := P9.out.grown B9.out hg4 B9.out.size; obtain ⟨A5, c5, rfl, _, _⟩ := hown4.any; have OW4 := Lib.hid hown4; clear hown4 hg4)
          go_roundw
          case rel => exact ⟨j + 1, false, _, A5, c5, by omega, by go_num, rfl, rfl, ⟨OW4.out, B4.out, IS2.out, fun _ e he => (by rw [TK.out] at he; rcases List.mem_append.1 he with he | he; exact LOW.out e he; have : e = (kx, vx) := (by simpa using he); rw [this]; exact HLK.out), fun h => (by cases h)⟩⟩
          case measure => simp [intOf]; omega
        · have hge : ltB k kx = true := by
            rcases TT.out with h | h | h
            · exact absurd h hlk
            · exact absurd h NE.out
            · exact h
          rw [Bool.eq_false_iff.2 hlk] at LS
          obtain ⟨acc2, hacc2⟩ : ∃ a, a = if true = true then putE (D.take (j + 1)) k v else D.take (j + 1) := ⟨_, rfl⟩
          have AC2 : Hid ((acc ++ [(k, v)]) ++ [(kx, vx)] = acc2) := by
            show _ = _
            rw [hacc2]
            rw [if_pos rfl, TK.out, put_snoc hge, put_here LOW.out, AC.out]
          have HGE := Lib.hid hge
          have IS2 := Lib.hid hacc2
          clear hacc2
          obtain ⟨w9, hw9⟩ : ∃ w9, w9 = wr.alloc (.cells #[.string (strB k), .string (strB v)] 62) := ⟨_, rfl⟩
          have U9 := Lib.hid (pair_row hw9)
          have P9 := Lib.hid (G.out.own.below_ U9.out.1)
          have B9 : Hid (Below w1.heap.size w1 w9) := G.out.under_.trans (U9.out.1.mono G.out.under_.size)
          have HW9 := Lib.hid hw9
          clear hw9 hlk hge
          go_upto_region 8 with (at_builtin; rw [← HW9.out]; refine wpList_append_p rfl (o := ⟨some 40, _, _, _, _, _⟩) (.tmp 35) (.tmp 39) rfl w1.heap.size _ _ rfl P9.out (some ⟨wr.heap.size, 0, none⟩) 1 1 [(k, v)] rfl rfl U9.out.2 (by have := SZ.out; omega) B9.out.size ?_; intro v4 w4 hown4 hg4; have B4 : Hid (Below w1.heap.size w1 w4) := P9.out.grown B9.out hg4 B9.out.size; obtain ⟨A5, c5, rfl, _, _⟩ := hown4.any; have OW4 := Lib.hid hown4; clear hown4 hg4)
          have BR4 := Lib.hid (BK.out.below B4.out BK.out.lt)
          have d0 := BR4.out.cell 0
          have lr4 := BR4.out.lt
          obtain ⟨g4, off4, eg, z0, z1⟩ := (PA.out.below B4.out).at_ hlt
          injection eg with eg
          injection eg with eg1 eg2
          subst eg1 eg2
          have EKV : D[j] = (kx, vx) := by
            have h1 := TK.out
            rw [List.take_succ_eq_append_getElem hlt] at h1
            have h2 := List.append_cancel_left h1
            injection h2
          rw [EKV] at z0 z1
          dsimp only at z0 z1
          obtain ⟨w10, hw10⟩ : ∃ w10, w10 = w4.alloc (.cells #[.string (strB kx), .string (strB vx)] 62) := ⟨_, rfl⟩
          have U10 := Lib.hid (pair_row hw10)
          have P10 := Lib.hid (OW4.out.below_ U10.out.1)
          have B10 : Hid (Below w1.heap.size w1 w10) := B4.out.trans (U10.out.1.mono B4.out.size)
          have HW10 := Lib.hid hw10
          have SZ10 : Hid ((acc ++ [(k, v)]).length + 1 ≤ 100000) := by show _ ≤ _; rw [List.length_append]; exact SZ.out
          clear hw10 EKV x0 x1 c0
          have lm : (acc ++ [(k, v)]).length = acc.length + 1 := by simp
          rw [lm] at P10
          go_wp2_with (at_builtin; rw [← HW10.out]; refine wpList_append_p rfl (o := ⟨some 50, _, _, _, _, _⟩) (.tmp 41) (.tmp 49) rfl w1.heap.size _ _ rfl P10.out (some ⟨w4.heap.size, 0, none⟩) 1 1 [(kx, vx)] rfl rfl U10.out.2 SZ10.out B10.out.size ?_; intro v6 w6 hown6 hg6; rw [AC2.out] at hown6; have B6 : Hid (Below w1.heap.size w1 w6) := P10.out.grown B10.out hg6 B10.out.size; obtain ⟨A7, c7, rfl, _, _⟩ := hown6.any; have OW6 := Lib.hid hown6; clear hown6 hg6)
          go_roundw
          case rel => exact ⟨j + 1, true, _, A7, c7, by omega, by go_num, rfl, rfl, ⟨OW6.out, B6.out, IS2.out, fun h => (by cases h), fun _ => ⟨(kx, vx), by rw [TK.out]; simp, HGE.out⟩⟩⟩
          case measure => simp [intOf]; omega
    · have jm : ¬ (j : Int) < (m : Int) := by omega
      have tj : D.take j = D := List.take_of_length_le (by omega)
      have IS := G.out.is_
      rw [tj] at IS
      have LW := G.out.low
      rw [tj] at LW
      have y0 := BR.out.frozen 0
      clear hm hl tj
      cases dn with
      | true =>
        have AC : Hid (acc = putE D k v) := IS
        have FIN : Hid (∀ w', w' = wr.setCell ⟨r, 0, none⟩ (.slice A' acc.length c') → (∃ A' c', RefP w' base r (putE l k v) A' c') ∧ KpS [31] base w w') := fun w' hw' => by
          have KS : KpS [31] base wr w' := by rw [hw']; exact (KpS.refl _ _ _).set_ BR.out (by simp) HBR.out 0 _
          refine ⟨⟨A', c', ?_, ?_⟩, (KK.out.trans (KpS.under G.out.under_)).trans KS⟩
          · rw [hw', ← PD.out, ← AC.out]; exact BR.out.set_ 0 _
          · rw [← PD.out, ← AC.out]; exact OwnP.base_ (KS.row G.out.own (by decide)) (Nat.le_trans SZ0.out KK.out.size)
        clear IS LW
        go_wp2_with fail
        go_end0
        exact ⟨rfl, FIN.out _ rfl⟩
      | false =>
        have AC : Hid (acc ++ [(k, v)] = putE D k v) := by
          show _ = _
          rw [put_here (LW rfl), IS]
          rfl
        obtain ⟨w9, hw9⟩ : ∃ w9, w9 = wr.alloc (.cells #[.string (strB k), .string (strB v)] 62) := ⟨_, rfl⟩
        have U9 := Lib.hid (pair_row hw9)
        have P9 := Lib.hid (G.out.own.below_ U9.out.1)
        have B9 : Hid (Below w1.heap.size w1 w9) := G.out.under_.trans (U9.out.1.mono G.out.under_.size)
        have HW9 := Lib.hid hw9
        have SZ : Hid (acc.length + 1 ≤ 100000) := by show _ ≤ _; have := HL.out; omega
        clear IS LW hw9
        go_wp2_with (at_builtin; rw [← HW9.out]; refine wpList_append_p rfl (o := ⟨some 58, _, _, _, _, _⟩) (.tmp 53) (.tmp 57) rfl w1.heap.size _ _ rfl P9.out (some ⟨wr.heap.size, 0, none⟩) 1 1 [(k, v)] rfl rfl U9.out.2 SZ.out B9.out.size ?_; intro v4 w4 hown4 hg4; rw [AC.out] at hown4; have B4 : Hid (Below w1.heap.size w1 w4) := P9.out.grown B9.out hg4 B9.out.size; obtain ⟨A5, c5, rfl, _, _⟩ := hown4.any; have OW4 := Lib.hid hown4; clear hown4 hg4; have B5 := Lib.hid (BK.out.below B4.out BK.out.lt); have d0 := B5.out.cell 0; have e0 := B5.out.frozen 0; have l5 := B5.out.lt; obtain ⟨m5, hm5⟩ : ∃ m, m = (putE D k v).length := (⟨_, rfl⟩); rw [← hm5]; have HM5 := Lib.hid hm5; clear hm5)
        go_end0
        refine ⟨rfl, ?_⟩
        have KS : KpS [31] base w4 (w4.setCell ⟨r, 0, none⟩ (.slice A5 m5 c5)) := (KpS.refl _ _ _).set_ B5.out (by simp) HBR.out 0 _
        refine ⟨⟨A5, c5, ?_, ?_⟩, (KK.out.trans (KpS.under B4.out)).trans KS⟩
        · rw [← PD.out, ← HM5.out]; exact B5.out.set_ 0 _
        · rw [← PD.out]; exact OwnP.base_ (KS.row OW4.out (by decide)) (Nat.le_trans SZ0.out KK.out.size)
end Go.Proofs.YtldmllmkckklhaaGreatDoor
