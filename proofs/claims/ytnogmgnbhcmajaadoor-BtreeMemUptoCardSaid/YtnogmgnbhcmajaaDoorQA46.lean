/-
  btree: Free, held or not; giveBack. · btree: what Delete does to a leaf. · btree: what Put does to a leaf, in plain words; a value laid over another in a row of entries.
-/
import Derived.Test.YtnogmgnbhcmajaaDoorQA43
namespace Go.Proofs.YtnogmgnbhcmajaaDoor
open Go.RowKit Wal

/-- Blocks given back: what is held stays. -/
def gone (f : Nat → Option KB) (bs : List Nat) : Nat → Option KB := fun j => if j + 1 ∈ bs then (match f j with | some (l, true) => some (l, true) | _ => none) else f j
theorem gone_nil (f : Nat → Option KB) : gone f [] = f := by funext j; simp [gone]
theorem gone_far {f : Nat → Option KB} {bs : List Nat} {v : Nat} (h1 : 1 ≤ v) (h : v ∉ bs) : gone f bs (v - 1) = f (v - 1) := by
  unfold gone
  rw [show v - 1 + 1 = v by omega, if_neg h]
theorem gone_snoc (f : Nat → Option KB) (bs : List Nat) (v : Nat) (h : v ∉ bs) : gone (gone f bs) [v] = gone f (bs ++ [v]) := by
  funext j
  unfold gone
  by_cases c : j + 1 = v
  · subst c
    simp [h]
  · by_cases c2 : j + 1 ∈ bs
    · simp [c, c2]
    · simp [c, c2]
theorem gone_held {f : Nat → Option KB} {i : Nat} {l : List Nat} (h : f i = some (l, true)) : gone f [i + 1] = f := by
  funext j
  unfold gone
  by_cases c : j = i
  · subst c
    simp [h]
  · simp [c]
theorem gone_free {f : Nat → Option KB} {i : Nat} {l : List Nat} (h : f i = some (l, false)) : gone f [i + 1] = put f i none := by
  funext j
  unfold gone put
  by_cases c : j = i
  · subst c
    simp [h]
  · simp [c]
set_option maxRecDepth 100000 in
theorem free_held (B : Nat) (w : World) (p n : Nat) (f : Nat → Option KB) (h : MemAt B w p n f) (i : Nat) (l : List Nat) (hf : f i = some (l, true)) :
    Calls Tryd.prog 8 #[.pointer (some ⟨p, 0, none⟩), .int .i64 ((i : Int) + 1)] w fun e w' => e = .returned (.int .i64 0) ∧ w = w' := by
  obtain ⟨g, ad, h⟩ := h
  have FD := Lib.hid (find_yes B w p g n ad f h i _ hf)
  obtain ⟨hi, a2, a3, _⟩ := h.each i _ hf
  have c1 : w.cell? ⟨ad i, 512, none⟩ = some (.bool true) := by rw [a2.cell, blkC_held _ a3]
  clear h hf a2 a3
  go_enter Tryd.func8, Tryd.ntmps8
  go_wp2_with fail
  refine FD.out.mono ?_
  rintro e w' ⟨rfl, rfl⟩
  clear FD
  go_wp2_with fail
  go_ret
  exact ⟨rfl, rfl⟩
theorem free_any (B : Nat) (w : World) (p n : Nat) (f : Nat → Option KB) (h : MemAt B w p n f) (v : Nat) (h1 : 1 ≤ v) (hf : f (v - 1) ≠ none) :
    Calls Tryd.prog 8 #[.pointer (some ⟨p, 0, none⟩), .int .i64 (v : Int)] w fun e w' => e = .returned (.int .i64 0) ∧ MemAt B w' p n (gone f [v]) ∧ Kp B w w' := by
  obtain ⟨i, rfl⟩ : ∃ i, v = i + 1 := ⟨v - 1, by omega⟩
  rw [Nat.add_sub_cancel] at hf
  rw [show ((i + 1 : Nat) : Int) = (i : Int) + 1 by omega]
  match hx : f i with
  | none => exact absurd hx hf
  | some (l, true) =>
    refine (free_held B w p n f h i l hx).mono ?_
    rintro e w' ⟨rfl, rfl⟩
    exact ⟨rfl, by rw [gone_held hx]; exact h, Kp.refl _ _⟩
  | some (l, false) =>
    refine (free_yes B w p n f h i l hx).mono ?_
    rintro e w' ⟨rfl, m, k⟩
    exact ⟨rfl, by rw [gone_free hx]; exact m, k⟩
set_option maxRecDepth 100000 in
set_option maxHeartbeats 3200000 in
theorem giveback_any (B : Nat) (w : World) (cb t p root n : Nat) (f : Nat → Option KB) (key : List Nat) (ed tv ov : Value) (hc : ChangeO w cb t key ed tv ov) (ht : TreeO w t p root) (hm : MemAt B w p n f) (ts : List Nat) (base : Nat) (A : Option Addr) (c : Nat) (ho : OwnN w base (.slice A ts.length c) ts) (hl : ts.length ≤ 100000) (hd : ts.Nodup) (hf : ∀ v ∈ ts, 1 ≤ v ∧ f (v - 1) ≠ none) :
    Calls Tryd.prog 50 #[.pointer (some ⟨cb, 0, none⟩), .slice A ts.length c] w fun e w' => e = .returned (.tuple #[]) ∧ MemAt B w' p n (gone f ts) ∧ Kp B w w' := by
  have HF := Lib.hid hf
  have HD := Lib.hid hd
  have HC := Lib.hid hc
  have HT := Lib.hid ht
  have HM := Lib.hid hm
  have HO := Lib.hid ho
  have HH := Lib.hid heedT_ok
  clear hf hd hc ht hm ho
  go_enter Tryd.func50, Tryd.ntmps50
  go_wp2_with fail
  go_loopw [5, 8] (fun _ i wr => ∃ k : Nat, k ≤ ts.length ∧ i = .int .i64 k ∧ Hid (MemAt B wr p n (gone f (ts.take k)) ∧ Kp B w wr)) (fun _ i _ => ts.length - (intOf i).toNat)
  case atStart => exact ⟨0, by omega, rfl, by rw [List.take_zero, gone_nil]; exact HM.out, Kp.refl _ _⟩
  case round =>
    obtain ⟨k, hk, rfl, G⟩ := hrel
    by_cases hlt : k < ts.length
    · have OR : Hid (OwnN wr base (.slice A ts.length c) ts) := G.out.2.row HO.out (by decide) (by decide)
      obtain ⟨A', c', e, _, hN⟩ := OR.out.any
      injection e with e1 _ e3
      subst e1
      subst e3
      obtain ⟨g, off, rfl, _, hcell⟩ := hN (by omega)
      have hc := hcell k (iV ts[k]) (by rw [List.getElem?_map, List.getElem?_eq_getElem hlt]; rfl)
      unfold iV at hc
      obtain ⟨v1, hy⟩ := HF.out ts[k] (List.getElem_mem hlt)
      have tk : ts.take (k + 1) = ts.take k ++ [ts[k]] := List.take_succ_eq_append_getElem hlt
      have nd : ts[k] ∉ ts.take k := by
        have h1 : (ts.take (k + 1)).Nodup := HD.out.sublist (List.take_sublist _ _)
        rw [tk] at h1
        exact fun hm => (List.nodup_append.1 h1).2.2 _ hm _ (by simp) rfl
      have FR := Lib.hid (free_any B wr p n _ G.out.1 ts[k] v1 (by rw [gone_far v1 nd]; exact hy))
      rw [gone_snoc f _ _ nd, ← tk] at FR
      generalize ts[k] = v at *
      have c0 := (HC.out.kp G.out.2).cell 0
      have t0 := (HT.out.kp G.out.2).cell 0
      unfold stoB at t0
      have lk : (k : Int) < (ts.length : Int) := by omega
      clear tk nd hy hN hcell
      go_wp2_with fail
      rw [meetsB_free]
      case hn => kernel_rfl
      go_simp
      refine FR.out.mono ?_
      rintro x w3 ⟨rfl, m3, k3⟩
      have R3 := Lib.hid (And.intro m3 (G.out.2.trans k3))
      clear m3 k3 FR c0 t0 hc
      go_wp2_with fail
      refine (HH.out w3).mono ?_
      rintro x w4 ⟨rfl, rfl⟩
      go_wp2_with fail
      go_roundw
      case rel => exact ⟨k + 1, by omega, by go_num, R3.out⟩
      case measure => simp [intOf]; omega
    · obtain rfl : k = ts.length := by omega
      have g := G.out
      rw [List.take_of_length_le (Nat.le_refl _)] at g
      have R := Lib.hid g
      go_wp2_with fail
      go_end0
      exact ⟨rfl, R.out⟩
end Go.Proofs.YtnogmgnbhcmajaaDoor

namespace Go.Proofs.YtnogmgnbhcmajaaDoor
open Go.RowKit Wal

theorem isAt_yes {es : List En} {k : List Nat} {i : Nat} (h : isAt es k i = true) : ∃ hi : i < es.length, es[i].1 = k := by
  unfold isAt at h
  rcases Nat.lt_or_ge i es.length with hi | hi
  · rw [List.getElem?_eq_getElem hi] at h
    exact ⟨hi, of_decide_eq_true h⟩
  · rw [List.getElem?_eq_none hi] at h
    cases h
theorem isAt_no {es : List En} {k : List Nat} {i : Nat} (h : isAt es k i = false) : ∀ hi : i < es.length, es[i].1 ≠ k := fun hi e => by
  unfold isAt at h
  rw [List.getElem?_eq_getElem hi] at h
  exact (of_decide_eq_false h) e
theorem Spot.none_ {es : List En} {k : List Nat} {i : Nat} (s : Spot es k i) (h : Rises es) (hn : ∀ hi : i < es.length, es[i].1 ≠ k) : ∀ e ∈ es, e.1 ≠ k := fun e he e2 => by
  rw [← List.take_append_drop i es] at he
  rcases List.mem_append.1 he with he | he
  · have := s.low e he
    rw [(not_lt_self (e := e) e2).1] at this
    cases this
  · rw [← s.over_no h hn] at he
    unfold over at he
    have := (List.mem_filter.1 he).2
    rw [(not_lt_self (e := e) e2).2] at this
    cases this
theorem delO_yes {es : List En} {k : List Nat} {i : Nat} (s : Spot es k i) (h : Rises es) (hi : i < es.length) (hk : es[i].1 = k) : delO k es = some (es.take i ++ es.drop (i + 1)) := by
  unfold delO
  rw [if_pos ⟨es[i], List.getElem_mem hi, hk⟩, del_old s h hi hk]
theorem delO_no {es : List En} {k : List Nat} {i : Nat} (s : Spot es k i) (h : Rises es) (hn : ∀ hi : i < es.length, es[i].1 ≠ k) : delO k es = none := by
  unfold delO
  exact if_neg fun ⟨e, he, e2⟩ => s.none_ h hn e he e2
theorem few_leaf {ents : List En} (ho : OkAll ents) (hs : totalE ents ≤ 511) : ents.length ≤ 1000 := by
  have := few_ents ((show Nd (fun _ => none) 0 ents ents [] from ⟨rfl, rfl⟩).ok ho)
  omega
set_option maxRecDepth 100000 in
set_option maxHeartbeats 3200000 in
theorem delete_ed (B C : Nat) (w0 : World) (kc : Nat) (key : List Nat) (hk8 : ∀ x ∈ key, x < 256) (hkc : Held w0 kc 9 #[.string (strB key)]) : EdAt B C w0 30 #[.pointer (some ⟨kc, 0, none⟩)] (delO key) := by
  intro W hW X kb base A c ents u hX hX2 _ hh ho hr hok hs
  have HH := Lib.hid hh
  have HO := Lib.hid ho
  have HR := Lib.hid hr
  have KC := Lib.hid (hW.held hkc (by decide) (fun e => absurd e (by decide)))
  have FW := few_leaf hok hs
  have EA : Hid (∀ W', OwnEn W' base (.slice A ents.length c) ents → EAt W' A ents) := fun W' hW' => by
    obtain ⟨A', c', e, _, h1⟩ := hW'.any
    injection e with e1 _ _
    subst e1
    exact h1
  have BD : Hid (Below W.heap.size W W.drew) := (Below.refl _ _).drew
  have FD := Lib.hid (find_any W.drew 1 u A c ents (EA.out _ (ho.below_ BD.out)) hr (fun e he => (hok e he).kb) (by omega) key hk8)
  have e1 : ((1 : Nat) : Int) = 1 := rfl
  unfold noV at FD
  rw [e1] at FD
  have s0 : W.cell? ⟨kb, 0, none⟩ = some (.int .i64 1) ∧ W.cell? ⟨kb, 1, none⟩ = some (.slice A ents.length c) ∧ W.cell? ⟨kb, 2, none⟩ = some (.string (strB u)) ∧ W.cell? ⟨kc, 0, none⟩ = some (.string (strB key)) := ⟨hh.cell 0, hh.cell 1, hh.cell 2, KC.out.cell 0⟩
  obtain ⟨m, hm⟩ : ∃ m, m = ents.length := ⟨_, rfl⟩
  rw [← hm] at s0 FD
  have HM := Lib.hid hm
  clear hW hkc hh ho hr hok hs e1 hm
  go_enter Tryd.func30, Tryd.ntmps30
  go_upto_region 1 with fail
  refine wp_region_noPanic ?_
  refine wp_region_held_drew (S := fun w' => w'.cell? ⟨kb, 0, none⟩ = some (.int .i64 1) ∧ w'.cell? ⟨kb, 1, none⟩ = some (.slice A m c) ∧ w'.cell? ⟨kb, 2, none⟩ = some (.string (strB u)) ∧ w'.cell? ⟨kc, 0, none⟩ = some (.string (strB key))) (by kernel_rfl) s0 (fun hHeld => ?_)
  refine take_ (i := 0) (v := ?_) 7 rfl rfl (by kernel_rfl) (by kernel_rfl) (by kernel_rfl) (fun _ _ _ h => h) (Or.inl ⟨by rfl, ?_⟩) (by assumption) ?_
  rotate_left
  · (intro wS hSw; (try dsimp only at hSw); go_simp; try with_reducible rfl)
  simp only [Act.put, List.setIfInBounds_toArray]
  refine take_ (i := 1) (v := ?_) 8 rfl rfl (by kernel_rfl) (by kernel_rfl) (by kernel_rfl) (fun _ _ _ h => h) (Or.inl ⟨by rfl, ?_⟩) (by assumption) ?_
  rotate_left
  · (intro wS hSw; (try dsimp only at hSw); go_simp; try with_reducible rfl)
  simp only [Act.put, List.setIfInBounds_toArray]
  refine take_ (i := 2) (v := ?_) 9 rfl rfl (by kernel_rfl) (by kernel_rfl) (by kernel_rfl) (fun _ _ _ h => h) (Or.inl ⟨by rfl, ?_⟩) (by assumption) ?_
  rotate_left
  · (intro wS hSw; (try dsimp only at hSw); go_simp; try with_reducible rfl)
  simp only [Act.put, List.setIfInBounds_toArray]
  refine take_ (i := 3) (v := ?_) 10 rfl rfl (by kernel_rfl) (by kernel_rfl) (by kernel_rfl) (fun _ _ _ h => h) (Or.inl ⟨by rfl, ?_⟩) (by assumption) ?_
  rotate_left
  · (intro wS hSw; (try dsimp only at hSw); go_simp; try with_reducible rfl)
  simp only [Act.put, List.setIfInBounds_toArray]
  refine one_ (i := 4) _ (by kernel_rfl) rfl (fun K hK => ?_)
  go_simp
  refine FD.out.mono ?_
  rintro x w2 ⟨i, hsp, rfl, hb2⟩
  dsimp only
  have B2 : Hid (Below W.heap.size W w2) := BD.out.trans (hb2.mono BD.out.size)
  have H2 := Lib.hid (Held.below HH.out B2.out HH.out.lt)
  have K2 := Lib.hid (Held.below KC.out B2.out KC.out.lt)
  have O2 := Lib.hid (HO.out.below_ B2.out)
  have SP := Lib.hid hsp
  have s2 : w2.cell? ⟨kb, 0, none⟩ = some (.int .i64 1) ∧ w2.cell? ⟨kb, 1, none⟩ = some (.slice A m c) ∧ w2.cell? ⟨kb, 2, none⟩ = some (.string (strB u)) ∧ w2.cell? ⟨kc, 0, none⟩ = some (.string (strB key)) := ⟨H2.out.cell 0, by rw [HM.out]; exact H2.out.cell 1, H2.out.cell 2, K2.out.cell 0⟩
  clear hsp hb2 s0 FD
  refine hK.out _ _ s2 (fun hHeld => ?_)
  clear hK K
  cases hat : isAt ents key i with
  | true =>
    obtain ⟨hi, hk⟩ := isAt_yes hat
    have DE := Lib.hid (delO_yes SP.out HR.out hi hk)
    have DL := Lib.hid (delete_any w2 base _ ents O2.out i hi FW)
    rw [← HM.out] at DL
    have c1 := s2.2.1
    have wi : Hid ((i : Int) < 1000) := by show _ < _; omega
    have wi2 := wi.out
    clear hat hk s2
    refine take_ (i := 5) (v := ?_) 6 rfl rfl (by kernel_rfl) (by kernel_rfl) (by kernel_rfl) (fun _ _ _ h => h) (Or.inl ⟨by rfl, ?_⟩) (by assumption) ?_
    rotate_left
    · (intro wS hSw; (try dsimp only at hSw); go_simp; try with_reducible rfl)
    simp only [Act.put, List.setIfInBounds_toArray]
    refine take_ (i := 6) (v := ?_) 12 rfl rfl (by kernel_rfl) (by kernel_rfl) (by kernel_rfl) (fun _ _ _ h => h) (Or.inl ⟨by rfl, ?_⟩) (by assumption) ?_
    rotate_left
    · (intro wS hSw; (try dsimp only at hSw); go_simp; try with_reducible rfl)
    simp only [Act.put, List.setIfInBounds_toArray]
    refine take_ (i := 7) (v := ?_) 13 rfl rfl (by kernel_rfl) (by kernel_rfl) (by kernel_rfl) (fun _ _ _ h => h) (Or.inl ⟨by rfl, ?_⟩) (by assumption) ?_
    rotate_left
    · (intro wS hSw; (try dsimp only at hSw); go_simp; try with_reducible rfl)
    simp only [Act.put, List.setIfInBounds_toArray]
    refine take_ (i := 8) (v := ?_) 4 rfl rfl (by kernel_rfl) (by kernel_rfl) (by kernel_rfl) (fun _ _ _ h => h) (Or.inl ⟨by rfl, ?_⟩) (by assumption) ?_
    rotate_left
    · (intro wS hSw; (try dsimp only at hSw); go_simp; try with_reducible rfl)
    simp only [Act.put, List.setIfInBounds_toArray]
    refine take_ (i := 9) (v := ?_) 5 rfl rfl (by kernel_rfl) (by kernel_rfl) (by kernel_rfl) (fun _ _ _ h => h) (Or.inl ⟨by rfl, ?_⟩) (by assumption) ?_
    rotate_left
    · (intro wS hSw; (try dsimp only at hSw); go_simp; try with_reducible rfl)
    simp only [Act.put, List.setIfInBounds_toArray]
    refine wpAnyH_done (by kernel_rfl) ?_ _
    refine NoPanic.normal ?_
    go_wp2_with fail
    refine DL.out.mono ?_
    rintro x w3 ⟨v3, rfl, ho3, hg3⟩
    have KS3 : Hid (KpS [77, 79] X W w3) := by
      refine (KpS.under B2.out).trans ((KpS.refl _ _ _).grown O2.out ?_ (by simp) hX2)
      rw [← HM.out]
      exact hg3
    have H3 : Hid (Held w3 kb 79 #[.int .i64 1, .slice A ents.length c, .string (strB u)]) := ((KpS.refl [77] 0 w2).grown O2.out (by rw [← HM.out]; exact hg3) (by simp) (Nat.zero_le _)).held H2.out (by decide)
    obtain ⟨A3, c3, rfl, _, _⟩ := ho3.any
    have n1 := H3.out.cell 1
    have z1 := H3.out.frozen 1
    obtain ⟨m3, hm3⟩ : ∃ m3, m3 = (ents.take i ++ ents.drop (i + 1)).length := ⟨_, rfl⟩
    rw [← hm3]
    have O3 := Lib.hid ho3
    have FIN : Hid (∀ w4, w4 = w3.setCell ⟨kb, 1, none⟩ (.slice A3 m3 c3) → ∃ ch A' c' ents', (Ending.returned (.bool true)) = .returned (.bool ch) ∧ Held w4 kb 79 #[.int .i64 1, .slice A' ents'.length c', .string (strB u)] ∧ OwnEn w4 base (.slice A' ents'.length c') ents' ∧ KpS [77, 79] X W w4 ∧ delO key ents = if ch then some ents' else none) := by
      rintro w4 rfl
      refine ⟨true, A3, c3, ents.take i ++ ents.drop (i + 1), rfl, ?_, ?_, KS3.out.set_ H3.out (by simp) hX 1 _, DE.out⟩
      · rw [← hm3]
        exact H3.out.set_ 1 _
      · exact ((KpS.refl [79] 0 w3).set_ H3.out (by simp) (Nat.zero_le _) 1 _).row O3.out (by decide)
    clear ho3 hg3 hm3 DL
    go_wp2_with fail
    go_ret
    exact FIN.out _ rfl
  | false =>
    have DE := Lib.hid (delO_no SP.out HR.out (isAt_no hat))
    clear hat
    refine take_ (i := 5) (v := ?_) 6 rfl rfl (by kernel_rfl) (by kernel_rfl) (by kernel_rfl) (fun _ _ _ h => h) (Or.inl ⟨by rfl, ?_⟩) (by assumption) ?_
    rotate_left
    · (intro wS hSw; (try dsimp only at hSw); go_simp; try with_reducible rfl)
    simp only [Act.put, List.setIfInBounds_toArray]
    refine take_ (i := 6) (v := ?_) 12 rfl rfl (by kernel_rfl) (by kernel_rfl) (by kernel_rfl) (fun _ _ _ h => h) (Or.inl ⟨by rfl, ?_⟩) (by assumption) ?_
    rotate_left
    · (intro wS hSw; (try dsimp only at hSw); go_simp; try with_reducible rfl)
    simp only [Act.put, List.setIfInBounds_toArray]
    refine take_ (i := 7) (v := ?_) 13 rfl rfl (by kernel_rfl) (by kernel_rfl) (by kernel_rfl) (fun _ _ _ h => h) (Or.inl ⟨by rfl, ?_⟩) (by assumption) ?_
    rotate_left
    · (intro wS hSw; (try dsimp only at hSw); go_simp; try with_reducible rfl)
    simp only [Act.put, List.setIfInBounds_toArray]
    refine take_ (i := 8) (v := ?_) 4 rfl rfl (by kernel_rfl) (by kernel_rfl) (by kernel_rfl) (fun _ _ _ h => h) (Or.inl ⟨by rfl, ?_⟩) (by assumption) ?_
    rotate_left
    · (intro wS hSw; (try dsimp only at hSw); go_simp; try with_reducible rfl)
    simp only [Act.put, List.setIfInBounds_toArray]
    refine take_ (i := 9) (v := ?_) 5 rfl rfl (by kernel_rfl) (by kernel_rfl) (by kernel_rfl) (fun _ _ _ h => h) (Or.inl ⟨by rfl, ?_⟩) (by assumption) ?_
    rotate_left
    · (intro wS hSw; (try dsimp only at hSw); go_simp; try with_reducible rfl)
    simp only [Act.put, List.setIfInBounds_toArray]
    refine wpAnyH_done (by kernel_rfl) ?_ _
    refine NoPanic.normal ?_
    go_wp2_with fail
    go_ret
    exact ⟨false, A, c, ents, rfl, H2.out, O2.out, KpS.under B2.out, DE.out⟩
end Go.Proofs.YtnogmgnbhcmajaaDoor

namespace Go.Proofs.YtnogmgnbhcmajaaDoor
open Go.RowKit Wal

theorem putO_new {es : List En} {k v : List Nat} {i : Nat} (s : Spot es k i) (h : Rises es) (hn : ∀ hi : i < es.length, es[i].1 ≠ k) : putO k v es = some (es.take i ++ (k, v) :: es.drop i) := by
  unfold putO
  rw [if_neg (fun hm => s.none_ h hn _ hm rfl), put_new s h hn]
theorem putO_same {es : List En} {k v : List Nat} {i : Nat} (hi : i < es.length) (hk : es[i].1 = k) (hv : es[i].2 = v) : putO k v es = none := by
  unfold putO
  refine if_pos ?_
  have : es[i] = (k, v) := by rw [← hk, ← hv]
  rw [← this]
  exact List.getElem_mem hi
theorem putO_other {es : List En} {k v : List Nat} {i : Nat} (s : Spot es k i) (h : Rises es) (hi : i < es.length) (hk : es[i].1 = k) (hv : es[i].2 ≠ v) : putO k v es = some (es.set i (k, v)) := by
  unfold putO
  rw [if_neg, put_old s h hi hk]
  intro hm
  obtain ⟨j, hj, e⟩ := List.getElem_of_mem hm
  have ij : ¬ j < i := fun c => by
    have := List.pairwise_iff_getElem.1 h j i hj hi c
    rw [e] at this
    simp only [hk] at this
    rw [ltB_irrefl] at this
    cases this
  have ji : ¬ i < j := fun c => by
    have := List.pairwise_iff_getElem.1 h i j hi hj c
    rw [e] at this
    simp only [hk] at this
    rw [ltB_irrefl] at this
    cases this
  have : j = i := by omega
  subst this
  rw [e] at hv
  exact hv rfl
theorem rowEn_cons (e : En) (l : List En) : rowEn (e :: l) = .string (strB e.1) :: .string (strB e.2) :: rowEn l := by
  unfold rowEn
  rw [List.flatMap_cons]
  rfl
theorem rowEn_set : ∀ (l : List En) (i : Nat) (k v : List Nat) (hi : i < l.length), l[i].1 = k → (rowEn l).set (i * 2 + 1) (.string (strB v)) = rowEn (l.set i (k, v))
  | [], _, _, _, hi, _ => absurd hi (Nat.not_lt_zero _)
  | e :: l, 0, k, v, _, hk => by
    have hk : e.1 = k := hk
    rw [List.set_cons_zero, rowEn_cons, rowEn_cons, ← hk]
    rfl
  | e :: l, i + 1, k, v, hi, hk => by
    have ih := rowEn_set l i k v (by simpa using hi) (by simpa using hk)
    rw [List.set_cons_succ, rowEn_cons, rowEn_cons, ← ih, show (i + 1) * 2 + 1 = (i * 2 + 1) + 1 + 1 by omega, List.set_cons_succ, List.set_cons_succ]
/-- A value laid over another. -/
theorem OwnEn.set_ {w : World} {base g n c : Nat} {l : List En} (h : OwnEn w base (.slice (some ⟨g, 0, none⟩) n c) l) (i : Nat) (k v : List Nat) (hi : i < l.length) (hk : l[i].1 = k) : OwnEn (w.setCell ⟨g, i * 2 + 1, none⟩ (.string (strB v))) base (.slice (some ⟨g, 0, none⟩) n c) (l.set i (k, v)) := by
  rcases h.2 with ⟨e, _⟩ | ⟨g', cap, cur, e, hg, hh, hn, hcap, hsz, htake⟩
  · cases e
  · injection e with e1 e2 e3
    injection e1 with e1
    injection e1 with e1 _ _
    subst e1 e2 e3
    refine ⟨?_, .inr ⟨g, c, _, ?_, hg, Held.set_ hh (i * 2 + 1) _, ?_, hcap, by rw [Array.size_setIfInBounds]; exact hsz, ?_⟩⟩
    · rw [rowEn_length]
    · rw [List.length_set]
    · rw [List.length_set]; exact hn
    · rw [Array.toList_setIfInBounds, List.length_set, List.take_set, htake, rowEn_set l i k v hi hk]
end Go.Proofs.YtnogmgnbhcmajaaDoor
