/-
  btree: what is planted, in plain words. · btree: a change under way: renew, at every tree. · btree: a change under way: plant. · btree: a change under way: run.
-/
import Derived.Test.YtnogmgnbhcmajaaDoorQA51
namespace Go.Proofs.YtnogmgnbhcmajaaDoor
open Wal

/-- How many blocks may still be laid. -/
def plantR (d : Nat) (ents : List En) : Nat := if 0 < d ∧ ents.length = 1 then 0 else if totalE ents ≤ 511 then 1 else 3
structure Plant (n : Nat) (f f' : Nat → Option KB) (d : Nat) (ents es : List En) (bs0 bs news : List Nat) : Prop where
  nd : Nd f' d ents es bs
  grew : Grew n f f' news
  swap : bs.Perm (news ++ bs0)
  some_ : 0 < d → ents ≠ []
  fit : totalE ents ≤ 829
  few : news.length + plantR d ents ≤ 3
  lean : bs0 = [] → totalE es ≤ 511 → news.length + plantR d ents ≤ 1
theorem nd_flat {f : Nat → Option KB} {d : Nat} {ents es : List En} (h : Nd f d ents es []) : ents = es := by
  match d, h with
  | 0, ⟨h1, _⟩ => exact h1
  | d + 1, ⟨ks, h1, h2, h3, h4⟩ =>
    have : ks = [] := by
      rcases ks with _ | ⟨k, r⟩
      · rfl
      · have h5 := ((h2 k (by simp)).top).2.2.2
        rw [blocksK_cons] at h4
        have h6 := (List.append_eq_nil_iff.1 h4.symm).1
        rw [h6] at h5
        cases h5
    rw [h1, h3, this]
    rfl
theorem Plant.start {n : Nat} {f : Nat → Option KB} {d : Nat} {ents es : List En} {bs : List Nat} (h : Nd f d ents es bs) (hs : 0 < d → ents ≠ []) (hf : totalE ents ≤ 829) : Plant n f f d ents es bs bs [] :=
  ⟨h, Grew.refl n f, List.Perm.refl _, hs, hf, by
    unfold plantR
    simp only [List.length_nil]
    split
    · omega
    · split <;> omega, fun h1 h2 => by
    subst h1
    rw [← nd_flat h] at h2
    unfold plantR
    simp only [List.length_nil]
    split
    · omega
    · first | omega | (rw [if_pos h2]; omega)⟩
theorem Plant.step {n : Nat} {f f' f2 : Nat → Option KB} {d : Nat} {ents es : List En} {bs0 bs news news2 : List Nat} {ks : List Kid} (h : Plant n f f' d ents es bs0 bs news) (hg : ¬ (0 < d ∧ ents.length = 1)) (hne : ks ≠ []) (l : LaidN n f' f2 d ents es bs ks news2) (ho : OkAll es) :
    Plant n f f2 (d + 1) (leads ks) es bs0 (blocksK ks) (news ++ news2) ∧ plantR (d + 1) (leads ks) < plantR d ents := by
  have hft := l.fit ho
  have hll : (leads ks).length = ks.length := by unfold leads; rw [List.length_map]
  have hkf := l.few
  have hkl : 0 < ks.length := List.length_pos_iff.2 hne
  have h1 : plantR (d + 1) (leads ks) + ks.length ≤ 3 ∧ (ks.length ≤ 1 → plantR (d + 1) (leads ks) = 0) ∧ plantR (d + 1) (leads ks) ≤ 1 := by
    unfold plantR
    rw [hll, if_pos (show totalE (leads ks) ≤ 511 by omega)]
    split <;> omega
  have h2 := h.few
  have h3 : plantR d ents = if totalE ents ≤ 511 then 1 else 3 := by unfold plantR; rw [if_neg hg]
  refine ⟨⟨l.nd, h.grew.trans l.grew, ?_, fun _ e => hne (List.map_eq_nil_iff.1 e), by omega, ?_, fun h6 h7 => ?_⟩, ?_⟩
  · refine List.perm_iff_count.2 fun a => ?_
    have h4 := List.perm_iff_count.1 l.blocks a
    have h5 := List.perm_iff_count.1 h.swap a
    simp only [List.count_append] at h4 h5 ⊢
    omega
  · rw [List.length_append, l.nl]
    rw [h3] at h2
    by_cases c : totalE ents ≤ 511
    · have h6 := l.one c
      have h7 := h1.2.1 h6
      rw [if_pos c] at h2
      omega
    · rw [if_neg c] at h2
      omega
  · have h8 := h.lean h6 h7
    rw [h3] at h8
    by_cases c : totalE ents ≤ 511
    · have h9 := l.one c
      have h10 := h1.2.1 h9
      rw [if_pos c] at h8
      rw [List.length_append, l.nl]
      omega
    · rw [if_neg c] at h8
      omega
  · rw [h3]
    by_cases c : totalE ents ≤ 511
    · rw [if_pos c, h1.2.1 (l.one c)]; omega
    · rw [if_neg c]; omega
theorem Plant.done {n : Nat} {f f' : Nat → Option KB} {d : Nat} {ents es : List En} {bs0 bs news : List Nat} (h : Plant n f f' (d + 1) ents es bs0 bs news) (hg : ents.length = 1) : ∃ k : Kid, ents = [k.lead] ∧ TreeIs f' d k.b es bs := by
  obtain ⟨ks, h1, h2, h3, h4⟩ := h.nd
  have hl : ks.length = 1 := by
    have := congrArg List.length h1
    unfold leads at this
    rw [List.length_map] at this
    omega
  match ks, hl with
  | [k], _ =>
    refine ⟨k, h1, ?_⟩
    have e1 : es = k.es := by rw [h3]; simp [pairs]
    have e2 : bs = k.bs := by rw [h4]; simp [blocksK]
    rw [e1, e2]
    exact h2 k (by simp)
theorem laid_none {n : Nat} {f' f2 : Nat → Option KB} {d : Nat} {ents es : List En} {bs news2 : List Nat} (l : LaidN n f' f2 d ents es bs [] news2) : es = [] ∧ bs = [] ∧ news2 = [] := by
  have h1 := l.blocks
  have h2 := l.nl
  have h3 : news2 = [] := List.eq_nil_of_length_eq_zero (by rw [h2]; rfl)
  rw [h3] at h1
  exact ⟨by rw [← l.pairs]; rfl, List.perm_nil.1 (List.Perm.symm (by simpa [blocksK] using h1)), h3⟩
theorem Plant.thin {n : Nat} {f f' : Nat → Option KB} {d : Nat} {ents es : List En} {bs0 bs news : List Nat} (h : Plant n f f' d ents es bs0 bs news) : bs0 = [] → totalE es ≤ 511 → bs.length ≤ 1 := fun h1 h2 => by
  have h3 := h.swap.length_eq
  have h4 := h.lean h1 h2
  rw [h1, List.append_nil] at h3
  omega
/-- What plant tells. -/
structure Planted (n : Nat) (f f' : Nat → Option KB) (root : Nat) (es : List En) (bs0 bs news : List Nat) : Prop where
  grew : Grew n f f' news
  swap : bs.Perm (news ++ bs0)
  few : news.length ≤ 3
  lean : bs0 = [] → totalE es ≤ 511 → bs.length ≤ 1
  tree : (root = 0 ∧ es = [] ∧ bs = []) ∨ ∃ d, TreeIs f' d root es bs
end Go.Proofs.YtnogmgnbhcmajaaDoor

namespace Go.Proofs.YtnogmgnbhcmajaaDoor
open Go.RowKit Wal

theorem renew_any (B C : Nat) (cb t p root n : Nat) (f : Nat → Option KB) (key : List Nat) (hk8 : ∀ x ∈ key, x < 256) (k : FuncId) (caps : Array Value) (hk : ∀ (l : Array Value) u, (callFunc k l).run Tryd.prog u = .ok (.enter k l) u) (taken : List Nat) (E : List En → Option (List En)) (hE : EditOk key E) (w0 : World) (hed : EdAt B C w0 k caps E) (hn4 : n ≤ 4096) : ∀ (d : Nat), d ≤ 190 → cnt n f + 2 * d ≤ n → taken.length + 2 * d ≤ 80000 → RenewAll B C cb t p root n f key k caps taken E w0 d
  | 0, _, _, _ => fun w tv ov old h hC hB few h0 b es bs lv fk u hs => renew_leaf B C w cb t p root n f key k caps hk tv ov taken old h hC (by omega) E hE w0 h0 hed b es bs lv fk u hs
  | d + 1, hd, room, ft => renew_step B C cb t p root n f key hk8 k caps taken E hE w0 d (renew_any B C cb t p root n f key hk8 k caps hk taken E hE w0 hed hn4 d (by omega) (by omega) (by omega)) (by omega) (by omega) hn4 (by omega)
end Go.Proofs.YtnogmgnbhcmajaaDoor

namespace Go.Proofs.YtnogmgnbhcmajaaDoor
open Go.RowKit Wal

def PlantE (B C : Nat) (w : World) (cb t p root n : Nat) (f : Nat → Option KB) (key : List Nat) (ed ov : Value) (taken old : List Nat) (es : List En) (bs : List Nat) (x : Ending) (w' : World) : Prop :=
  ∃ root' f' bs' news tv', x = .returned (.int .i64 ((root' : Nat) : Int)) ∧ Planted n f f' root' es bs bs' news ∧ Chg B C w' cb t p root n f' key ed tv' ov (taken ++ news) old ∧ KpC B C w w' ∧ cnt n f' = cnt n f + news.length
/-- What the loop keeps. -/
structure PlantI (B C : Nat) (w : World) (cb t p root n : Nat) (f : Nat → Option KB) (key : List Nat) (ed ov : Value) (taken old : List Nat) (es : List En) (bs : List Nat) (q d0 : Nat) (wr : World) (d : Nat) (ents : List En) (f' : Nat → Option KB) (bs' news : List Nat) (tv' : Value) (A : Option Addr) (c base : Nat) (u : List Nat) : Prop where
  node : Held wr q 79 #[.int .i64 ((d + 1 : Nat) : Int), .slice A ents.length c, .string (strB u)]
  own : OwnEn wr base (.slice A ents.length c) ents
  plant : Plant n f f' d ents es bs bs' news
  chg : Chg B C wr cb t p root n f' key ed tv' ov (taken ++ news) old
  kp : KpC B C w wr
  cnt_ : cnt n f' = cnt n f + news.length
  low : d0 ≤ d
  high : d + plantR d ents ≤ d0 + 3
set_option maxRecDepth 100000 in
set_option maxHeartbeats 6400000 in
theorem plant_any (B C : Nat) (w : World) (cb t p root n : Nat) (f : Nat → Option KB) (key : List Nat) (ed tv ov : Value) (taken old : List Nat) (h : Chg B C w cb t p root n f key ed tv ov taken old) (hB : B ≤ w.heap.size) (hC : C ≤ w.heap.size) (few : taken.length ≤ 70000) (d : Nat) (hd : d ≤ 194) (ents es : List En) (bs : List Nat) (A : Option Addr) (c base : Nat) (u : List Nat) (ho : OwnEn w base (.slice A ents.length c) ents) (hok : OkAll es) (hnd : Nd f d ents es bs) (hs : 0 < d → ents ≠ []) (hf : totalE ents ≤ 829) (hn4 : n ≤ 4096) (room : cnt n f + 5 ≤ n) :
    Calls Tryd.prog 49 #[.pointer (some ⟨cb, 0, none⟩), noV (d + 1) A ents.length c u] w (PlantE B C w cb t p root n f key ed ov taken old es bs) := by
  have HOK := Lib.hid hok
  have RM := Lib.hid (And.intro room (And.intro hn4 few))
  obtain ⟨q, hq⟩ : ∃ q, q = w.heap.size := ⟨_, rfl⟩
  obtain ⟨D, hD⟩ : ∃ D : Int, D = ((d + 1 : Nat) : Int) := ⟨_, rfl⟩
  obtain ⟨W, hW⟩ : ∃ W, W = w.alloc (.cells #[.int .i64 D, .slice A ents.length c, .string (strB u)] 79) := ⟨_, rfl⟩
  have HN : Held W q 79 #[.int .i64 D, .slice A ents.length c, .string (strB u)] := by rw [hW]; exact Held.new _ _ _ hq
  have BW : Hid (Below w.heap.size w W) := by rw [hW]; exact (Below.refl _ _).alloc (Nat.le_refl _) _
  have PS : Plant n f f d ents es bs bs [] := Plant.start hnd hs hf
  have PI : Hid (PlantI B C w cb t p root n f key ed ov taken old es bs q d W d ents f bs [] tv A c base u) := by
    refine ⟨by rw [← hD]; exact HN, ho.below_ BW.out, PS, ?_, KpC.under BW.out, by simp, Nat.le_refl _, ?_⟩
    · rw [List.append_nil]; exact h.under BW.out
    · have := PS.few
      simp only [List.length_nil] at this
      omega
  have QW : Hid (w.heap.size ≤ q ∧ w.heap.size ≤ W.heap.size) := ⟨by omega, BW.out.size⟩
  have HW := Lib.hid hW
  have HQ := Lib.hid hq
  have DD : Hid (d ≤ 194) := hd
  have SZB := Lib.hid (And.intro hB hC)
  unfold noV
  rw [← hD]
  clear h few ho hok hnd hs hf hn4 room hq hD hW HN PS hd hB hC
  go_enter Tryd.func49, Tryd.ntmps49
  go_wp2_with fail
  rw [← HW.out, ← HQ.out]
  go_loopw [5] (fun _ wr => ∃ (d' : Nat) (ents' : List En) (f' : Nat → Option KB) (bs' news : List Nat) (tv' : Value) (A' : Option Addr) (c' base' : Nat) (u' : List Nat), Hid (PlantI B C w cb t p root n f key ed ov taken old es bs q d wr d' ents' f' bs' news tv' A' c' base' u')) (fun _ wr => (wr.cell? ⟨q, 0, none⟩).elim 0 fun x => d + 6 - (intOf x).toNat)
  case atStart => exact ⟨d, ents, f, bs, [], tv, A, c, base, u, PI.out⟩
  case round =>
    clear PI
    obtain ⟨d', ents', f', bs', news, tv', A', c', base', u', G⟩ := hrel
    have HV := G.out.node
    have hHV := Lib.hid HV
    have SZ : Hid (w.heap.size ≤ wr.heap.size) := G.out.kp.size
    have ft := few_ents (G.out.plant.nd.ok HOK.out)
    have fl := G.out.plant.fit
    have nsl := G.out.plant.few
    have hi := G.out.high
    have lo := G.out.low
    have EA : Hid (EAt wr A' ents') := by
      obtain ⟨A9, c9, e, _, h1⟩ := G.out.own.any
      injection e with e1 _ _
      subst e1
      exact h1
    by_cases hg : 0 < d' ∧ ents'.length = 1
    · obtain ⟨d1, rfl⟩ : ∃ d1, d' = d1 + 1 := ⟨d' - 1, by omega⟩
      obtain ⟨X, hx, tx⟩ := G.out.plant.done hg.2
      have KD := Lib.hid (kid_any wr (d1 + 1 + 1) (by omega) (by have := DD.out; omega) u' A' c' ents' EA.out (by omega) 0 (by omega) X.b (by simp only [hx]; rfl) tx.top.2.1)
      have FIN : Hid (∀ w', Below wr.heap.size wr w' → PlantE B C w cb t p root n f key ed ov taken old es bs (.returned (.int .i64 ((X.b : Nat) : Int))) w') := fun w' hw' =>
        ⟨X.b, f', bs', news, tv', rfl, ⟨G.out.plant.grew, G.out.plant.swap, by omega, G.out.plant.thin, .inr ⟨_, tx⟩⟩, G.out.chg.under hw', G.out.kp.trans (KpC.under hw'), G.out.cnt_⟩
      obtain ⟨kx, hkx⟩ : ∃ kx, kx = ents'[0].1 := ⟨_, rfl⟩
      obtain ⟨ux, hux⟩ : ∃ ux, ux = nextU ents' 0 u' := ⟨_, rfl⟩
      rw [← hkx, ← hux] at KD
      generalize X.b = xb at *
      unfold noV spV at KD
      have c0 := HV.cell 0
      have c1 := HV.cell 1
      have c2 := HV.cell 2
      rw [hg.2] at c1 KD
      have l1 : (1 : Int) < ((d1 + 1 + 1 : Nat) : Int) := by omega
      obtain ⟨D2, hD2⟩ : ∃ D : Int, D = ((d1 + 1 + 1 : Nat) : Int) := ⟨_, rfl⟩
      rw [← hD2] at l1 c0 KD
      have e1 : ¬ D2 = 1 := by omega
      clear HV hg hx tx hkx hux hD2
      go_wp2_with fail
      refine KD.out.mono ?_
      rintro x w5 ⟨rfl, hb5⟩
      have F5 := Lib.hid (FIN.out w5 hb5)
      have FL : ∀ (u : World) (x a b c : Value), (Instr.field 89 (.agg #[x, a, b, c]) 0).run Tryd.prog u = .ok x u := fun u x a b c => by
        simp [Instr.field, asAgg, go_sem]
      clear hb5 KD c0 c1 c2
      go_wp2_with fail
      go_ret
      exact F5.out
    · have ND2 : 0 < d' → 2 ≤ ents'.length := fun h0 => by
        have h1 := List.length_pos_iff.2 (G.out.plant.some_ h0)
        have h2 : ¬ ents'.length = 1 := fun e => hg ⟨h0, e⟩
        omega
      have LAY := Lib.hid (lay_any B C wr cb t p root n f' key ed tv' ov (taken ++ news) old G.out.chg (Nat.le_trans SZB.out.1 SZ.out) (Nat.le_trans SZB.out.2 SZ.out) (by rw [List.length_append]; have h1 := RM.out.2.2; omega) d' (by have h1 := DD.out; have h2 := G.out.high; omega) ents' es bs' G.out.plant.nd HOK.out fl ND2 RM.out.2.1 (by have h1 := RM.out.1; have h2 := G.out.cnt_; omega) base' A' c' u' G.out.own)
      unfold noV at LAY
      obtain ⟨D2, hD2⟩ : ∃ D : Int, D = ((d' + 1 : Nat) : Int) := ⟨_, rfl⟩
      have HD2 := Lib.hid hD2
      have HG := Lib.hid hg
      have N2 := Lib.hid ND2
      have c0 := HV.cell 0
      have c1 := HV.cell 1
      have c2 := HV.cell 2
      rw [← hD2] at c0 LAY
      have dl : d' ≤ d + 3 := by omega
      have wD : wrap64 (D2 + 1) = D2 + 1 := by have := DD.out; unfold wrap64; omega
      obtain ⟨m2, hm2⟩ : ∃ m, m = ents'.length := ⟨_, rfl⟩
      rw [← hm2] at c1 LAY

      rcases Nat.eq_zero_or_pos d' with d0 | d1
      · have D1 : D2 = 1 := by omega
        clear hD2 hg ND2 HV hm2 d0
        subst D1
        go_wp2_with fail
        refine LAY.out.mono ?_
        rintro x w5 ⟨f2, ks, news2, v5, tv5, rfl, hL, hO5, hC5, hK5, cnt5, hNil⟩
        obtain ⟨A5, c5, rfl, _, _⟩ := hO5.any
        by_cases hk : ks = []
        · subst hk
          obtain ⟨e1, e2, e3⟩ := laid_none hL
          have l0 : (leads []).length = 0 := rfl
          rw [l0]
          have F5 : Hid (PlantE B C w cb t p root n f key ed ov taken old es bs (.returned (.int .i64 ((0 : Nat) : Int))) w5) := by
            refine ⟨0, f2, [], news ++ news2, tv5, rfl, ⟨G.out.plant.grew.trans hL.grew, ?_, ?_, fun _ _ => Nat.zero_le _, .inl ⟨rfl, e1, rfl⟩⟩, ?_, G.out.kp.trans hK5, ?_⟩
            · have := G.out.plant.swap
              rw [e2] at this
              rw [e3, List.append_nil]
              exact this
            · rw [e3, List.append_nil]; omega
            · rw [← List.append_assoc]; exact hC5
            · rw [cnt5, G.out.cnt_, List.length_append]; omega
          clear hL hO5 hC5 hK5 cnt5 hNil LAY c0 c1 c2 e1 e2 e3 l0
          go_wp2_with fail
          go_ret
          exact F5.out
        · obtain ⟨PS, PL⟩ := G.out.plant.step HG.out hk hL HOK.out
          have V5 := hK5.held hHV.out (by decide) (fun e => absurd e (by decide))
          have lk : 0 < (leads ks).length := by unfold leads; rw [List.length_map]; exact List.length_pos_iff.2 hk
          obtain ⟨m5, hm5⟩ : ∃ m, m = (leads ks).length := ⟨_, rfl⟩
          obtain ⟨w6, hw6⟩ : ∃ w6, w6 = ((w5.setCell ⟨q, 0, none⟩ (.int .i64 2)).setCell ⟨q, 1, none⟩ (.slice A5 m5 c5)).setCell ⟨q, 2, none⟩ (.string ⟨#[]⟩) := ⟨_, rfl⟩
          have KS : KpS [79] 0 w5 w6 := by rw [hw6]; exact (((KpS.refl _ _ _).set_ V5 (by simp) (Nat.zero_le _) 0 _).set_ (V5.set_ 0 _) (by simp) (Nat.zero_le _) 1 _).set_ ((V5.set_ 0 _).set_ 1 _) (by simp) (Nat.zero_le _) 2 _
          have BF : Below w.heap.size w5 w6 := by
            rw [hw6]
            exact (((Below.refl _ _).setCell (p := ⟨q, 0, none⟩) QW.out.1 _).setCell (p := ⟨q, 1, none⟩) QW.out.1 _).setCell (p := ⟨q, 2, none⟩) QW.out.1 _
          have P6 : Hid (PlantI B C w cb t p root n f key ed ov taken old es bs q d w6 (d' + 1) (leads ks) f2 (blocksK ks) (news ++ news2) tv5 A5 c5 wr.heap.size []) := by
            refine ⟨?_, KS.row hO5 (by decide), PS, ?_, (G.out.kp.trans hK5).fresh BF, ?_, by omega, ?_⟩
            · rw [hw6, ← hm5]
              rw [show ((d' + 1 + 1 : Nat) : Int) = 2 by have := HD2.out; omega]
              exact ((V5.set_ 0 _).set_ 1 _).set_ 2 _
            · rw [← List.append_assoc]; exact hC5.kps KS (by decide)
            · rw [cnt5, G.out.cnt_, List.length_append]; omega
            · have := G.out.high
              omega
          have v0 := V5.cell 0
          have v1 := V5.cell 1
          have v2 := V5.cell 2
          rw [← HD2.out] at v0
          have y0 := V5.frozen 0
          have y1 := V5.frozen 1
          have y2 := V5.frozen 2
          have HW6 := Lib.hid hw6
          rw [← hm5] at lk ⊢
          have l5 : ¬ (m5 : Int) = 0 := by omega
          clear hL hO5 hC5 hK5 cnt5 hNil LAY c0 c1 c2 PS PL V5 KS BF hw6 hm5 hk
          go_wp2_with fail
          rw [← HW6.out]
          go_roundw
          case rel => exact ⟨d' + 1, leads ks, f2, blocksK ks, news ++ news2, tv5, A5, c5, wr.heap.size, [], P6.out⟩
          case measure =>
            rw [P6.out.node.cell 0, hHV.out.cell 0]
            simp [intOf]
            omega
      · have D1 : ¬ D2 = 1 := by omega
        have l1 : (1 : Int) < (m2 : Int) := by have := ND2 d1; omega
        clear hD2 hg ND2 HV hm2 d1
        go_wp2_with fail
        refine LAY.out.mono ?_
        rintro x w5 ⟨f2, ks, news2, v5, tv5, rfl, hL, hO5, hC5, hK5, cnt5, hNil⟩
        obtain ⟨A5, c5, rfl, _, _⟩ := hO5.any
        by_cases hk : ks = []
        · subst hk
          obtain ⟨e1, e2, e3⟩ := laid_none hL
          have l0 : (leads []).length = 0 := rfl
          rw [l0]
          have F5 : Hid (PlantE B C w cb t p root n f key ed ov taken old es bs (.returned (.int .i64 ((0 : Nat) : Int))) w5) := by
            refine ⟨0, f2, [], news ++ news2, tv5, rfl, ⟨G.out.plant.grew.trans hL.grew, ?_, ?_, fun _ _ => Nat.zero_le _, .inl ⟨rfl, e1, rfl⟩⟩, ?_, G.out.kp.trans hK5, ?_⟩
            · have := G.out.plant.swap
              rw [e2] at this
              rw [e3, List.append_nil]
              exact this
            · rw [e3, List.append_nil]; omega
            · rw [← List.append_assoc]; exact hC5
            · rw [cnt5, G.out.cnt_, List.length_append]; omega
          clear hL hO5 hC5 hK5 cnt5 hNil LAY c0 c1 c2 e1 e2 e3 l0
          go_wp2_with fail
          go_ret
          exact F5.out
        · obtain ⟨PS, PL⟩ := G.out.plant.step HG.out hk hL HOK.out
          have V5 := hK5.held hHV.out (by decide) (fun e => absurd e (by decide))
          have lk : 0 < (leads ks).length := by unfold leads; rw [List.length_map]; exact List.length_pos_iff.2 hk
          obtain ⟨m5, hm5⟩ : ∃ m, m = (leads ks).length := ⟨_, rfl⟩
          obtain ⟨w6, hw6⟩ : ∃ w6, w6 = ((w5.setCell ⟨q, 0, none⟩ (.int .i64 (D2 + 1))).setCell ⟨q, 1, none⟩ (.slice A5 m5 c5)).setCell ⟨q, 2, none⟩ (.string ⟨#[]⟩) := ⟨_, rfl⟩
          have KS : KpS [79] 0 w5 w6 := by rw [hw6]; exact (((KpS.refl _ _ _).set_ V5 (by simp) (Nat.zero_le _) 0 _).set_ (V5.set_ 0 _) (by simp) (Nat.zero_le _) 1 _).set_ ((V5.set_ 0 _).set_ 1 _) (by simp) (Nat.zero_le _) 2 _
          have BF : Below w.heap.size w5 w6 := by
            rw [hw6]
            exact (((Below.refl _ _).setCell (p := ⟨q, 0, none⟩) QW.out.1 _).setCell (p := ⟨q, 1, none⟩) QW.out.1 _).setCell (p := ⟨q, 2, none⟩) QW.out.1 _
          have P6 : Hid (PlantI B C w cb t p root n f key ed ov taken old es bs q d w6 (d' + 1) (leads ks) f2 (blocksK ks) (news ++ news2) tv5 A5 c5 wr.heap.size []) := by
            refine ⟨?_, KS.row hO5 (by decide), PS, ?_, (G.out.kp.trans hK5).fresh BF, ?_, by omega, ?_⟩
            · rw [hw6, ← hm5]
              rw [show ((d' + 1 + 1 : Nat) : Int) = D2 + 1 by rw [HD2.out]; omega]
              exact ((V5.set_ 0 _).set_ 1 _).set_ 2 _
            · rw [← List.append_assoc]; exact hC5.kps KS (by decide)
            · rw [cnt5, G.out.cnt_, List.length_append]; omega
            · have := G.out.high
              omega
          have v0 := V5.cell 0
          have v1 := V5.cell 1
          have v2 := V5.cell 2
          rw [← HD2.out] at v0
          have y0 := V5.frozen 0
          have y1 := V5.frozen 1
          have y2 := V5.frozen 2
          have HW6 := Lib.hid hw6
          rw [← hm5] at lk ⊢
          have l5 : ¬ (m5 : Int) = 0 := by omega
          clear hL hO5 hC5 hK5 cnt5 hNil LAY c0 c1 c2 PS PL V5 KS BF hw6 hm5 hk
          go_wp2_with fail
          rw [← HW6.out]
          go_roundw
          case rel => exact ⟨d' + 1, leads ks, f2, blocksK ks, news ++ news2, tv5, A5, c5, wr.heap.size, [], P6.out⟩
          case measure =>
            rw [P6.out.node.cell 0, hHV.out.cell 0]
            simp [intOf]
            omega
end Go.Proofs.YtnogmgnbhcmajaaDoor

namespace Go.Proofs.YtnogmgnbhcmajaaDoor
open Go.RowKit Wal

theorem At.taken {f : Nat → Option KB} {d b : Nat} {es : List En} {bs : List Nat} (h : At f d b es bs) : ∀ v ∈ bs, 0 < v ∧ v ≤ 4096 ∧ ∃ x, f (v - 1) = some x := by
  rcases h with ⟨_, _, _, rfl⟩ | t
  · simp
  · exact t.taken
theorem At.flat {f : Nat → Option KB} {d b : Nat} {es : List En} {bs : List Nat} (h : At f d b es bs) (hl : bs.length ≤ 1) : d = 0 := by
  rcases h with ⟨_, h, _, _⟩ | t
  · exact h
  · match d, t with
    | 0, _ => rfl
    | d + 1, ⟨ks, _, _, _, h4, _, h6, _, h8⟩ =>
      match ks, h4 with
      | k :: r, _ =>
        have h5 := ((h6 k (by simp)).top).2.2.2
        have h7 := List.length_pos_of_mem h5
        rw [h8, blocksK_cons, List.length_cons, List.length_append] at hl
        omega
theorem Nd.bare {f : Nat → Option KB} {ents es : List En} {bs : List Nat} (h : Nd f 0 ents es bs) : bs = [] := h.2
/-- What is left, once the new nodes lie and the old ones are given back. -/
theorem run_plain {n : Nat} {f f1 f2 : Nat → Option KB} {d root root' : Nat} {es es' ents1 : List En} {bs bs1 bs2 olds news news2 : List Nat} (ha : At f d root es bs) (hn : bs.Nodup) (hr : Rises es') (r : Renewed n f f1 d es' bs ents1 bs1 olds news) (p : Planted n f1 f2 root' es' bs1 bs2 news2) :
    olds.Nodup ∧ (∀ v ∈ olds, 1 ≤ v ∧ f2 (v - 1) ≠ none) ∧ ∃ kept, Swapped n f (gone f2 olds) bs bs2 olds (news ++ news2) kept ∧ Tree (gone f2 olds) root' es' bs2 ∧ (bs.length ≤ 1 → totalE es' ≤ 511 → bs2.length ≤ 1) := by
  obtain ⟨kept, p1, p2⟩ := r.swap
  have G := r.grew.trans p.grew
  have p3 : bs2.Perm ((news ++ news2) ++ kept) := by
    refine List.perm_iff_count.2 fun a => ?_
    have h1 := List.perm_iff_count.1 p2 a
    have h2 := List.perm_iff_count.1 p.swap a
    simp only [List.count_append] at h1 h2 ⊢
    omega
  have nd := List.nodup_append.1 ((p1.nodup_iff).1 hn)
  have S : Swapped n f (dropB f2 olds) bs bs2 olds (news ++ news2) kept := swapped_of G p1 p3 ha.taken
  have io : ∀ v ∈ olds, v ∈ bs := fun v hv => (p1.mem_iff).2 (by simp [hv])
  refine ⟨nd.1, fun v hv => ?_, kept, S, ?_, fun h1 h2 => ?_⟩
  · obtain ⟨h1, _, x, hx⟩ := ha.taken v (io v hv)
    exact ⟨h1, by rw [G.keep h1 ⟨x, hx⟩, hx]; simp⟩
  · have N := S.nodup' hn ha.taken
    rcases p.tree with ⟨e1, e2, e3⟩ | ⟨d', t⟩
    · exact .inl ⟨e1, e2, e3⟩
    · refine .inr ⟨d', t.dropped (fun v hv ho => ?_), hr, N⟩
      rcases List.mem_append.1 ((p3.mem_iff).1 hv) with hv | hv
      · obtain ⟨_, _, x, hx⟩ := ha.taken v (io v ho)
        have := (G.new_ v hv).2.2.1
        rw [hx] at this
        cases this
      · exact nd.2.2 v ho v hv rfl
  · have := ha.flat h1
    subst this
    exact p.lean r.nd.bare h2
def RunE (B C : Nat) (w : World) (cb t p root n : Nat) (f : Nat → Option KB) (key : List Nat) (ed : Value) (es : List En) (bs : List Nat) (E : List En → Option (List En)) (x : Ending) (w' : World) : Prop :=
  (E es = none ∧ ∃ tv' ov' olds, x = .returned (.tuple #[.int .i64 (root : Int), .bool false]) ∧ Chg B C w' cb t p root n f key ed tv' ov' [] olds ∧ KpC B C w w') ∨
  ∃ es' f' root' bs' olds news kept tv' ov', E es = some es' ∧ x = .returned (.tuple #[.int .i64 ((root' : Nat) : Int), .bool true]) ∧ Swapped n f f' bs bs' olds news kept ∧ (Tree f' root' es' bs' ∧ (bs.length ≤ 1 → totalE es' ≤ 511 → bs'.length ≤ 1)) ∧ Chg B C w' cb t p root n f' key ed tv' ov' news olds ∧ KpC B C w w'
set_option maxRecDepth 100000 in
set_option maxHeartbeats 6400000 in
theorem run_any (B C : Nat) (w : World) (cb t p root n : Nat) (f : Nat → Option KB) (key : List Nat) (hk8 : ∀ x ∈ key, x < 256) (k : FuncId) (caps : Array Value) (hk : ∀ (l : Array Value) u, (callFunc k l).run Tryd.prog u = .ok (.enter k l) u) (tv ov : Value) (h : Chg B C w cb t p root n f key (.func (.func k) #[] caps) tv ov [] []) (hC : C ≤ w.heap.size) (hB : B ≤ w.heap.size) (E : List En → Option (List En)) (hE : EditOk key E) (hed : EdAt B C w k caps E)
    (d : Nat) (es : List En) (bs : List Nat) (ha : At f d root es bs) (hd : d ≤ 190) (hok : OkAll es) (hr : Rises es) (hn : bs.Nodup) (hn4 : n ≤ 4096) (room : cnt n f + 2 * d + 5 ≤ n) :
    Calls Tryd.prog 36 #[.pointer (some ⟨cb, 0, none⟩)] w (RunE B C w cb t p root n f key (.func (.func k) #[] caps) es bs E) := by
  have H := Lib.hid h
  have AT := Lib.hid ha
  have OKR := Lib.hid (And.intro hok (And.intro hr hn))
  have EK := Lib.hid hE
  have RM : Hid (cnt n f + 2 * d + 5 ≤ n ∧ n ≤ 4096 ∧ d ≤ 190) := ⟨room, hn4, hd⟩
  have TP := Lib.hid (top_any w t p root h.tree)
  have SPT : SpotOk f d root es bs 0 [] [] := ⟨ha, by omega, hok, hr, .inl rfl, .inl rfl, .inl rfl, by simp⟩
  have RA := Lib.hid (renew_any B C cb t p root n f key hk8 k caps hk [] E hE w hed hn4 d hd (by omega) (by simp; omega))
  have RN := Lib.hid (fun W (hW : Below w.heap.size w W) => RA.out W tv ov [] (h.under hW) (Nat.le_trans hC hW.size) (Nat.le_trans hB hW.size) (by simp; omega) (KpC.under hW) root es bs 0 [] [] SPT)
  have PL := Lib.hid (fun W tv1 ov1 f1 news olds (hc : Chg B C W cb t p root n f1 key (.func (.func k) #[] caps) tv1 ov1 ([] ++ news) ([] ++ olds)) (hB : B ≤ W.heap.size) (hC : C ≤ W.heap.size) => plant_any B C W cb t p root n f1 key (.func (.func k) #[] caps) tv1 ov1 ([] ++ news) ([] ++ olds) hc hB hC)
  have GB := Lib.hid (fun W => giveback_any B W cb t p root n)
  have SZ := Lib.hid (And.intro hC hB)
  have c0 := h.blk.cell 0
  clear h ha hok hr hn hE room hn4 hd SPT RA hed hC hB
  unfold spV at RN
  go_enter Tryd.func36, Tryd.ntmps36
  go_wp2_with fail
  refine TP.out.mono ?_
  rintro x w1 ⟨rfl, hb1⟩
  have B1 := Lib.hid hb1
  clear hb1 TP c0
  unfold spV
  go_wp2_with fail
  refine (RN.out _ B1.out).mono ?_
  rintro x w2 (⟨hEn, a, A2, m2, c2, s2, tv2, ov2, olds, rfl, hC2, hK2, lo⟩ | ⟨es1, f1, ents1, bs1, olds, news, A2, c2, tv2, ov2, sx, hEs, rfl, hR, hO2, hC2, cnt2, hK2, lo⟩)
  · obtain ⟨q, hq⟩ : ∃ q, q = w2.heap.size := ⟨_, rfl⟩
    obtain ⟨w3, hw3⟩ : ∃ w3, w3 = w2.alloc (.cells #[.int .i64 a, .slice A2 m2 c2, .string s2] 79) := ⟨_, rfl⟩
    have U3 : Hid (Below w2.heap.size w2 w3) := by rw [hw3]; exact (Below.refl _ _).alloc (Nat.le_refl _) _
    have C3 := Lib.hid (hC2.under U3.out)
    have K3 : Hid (KpC B C w w3) := (KpC.under B1.out).trans (hK2.trans (KpC.under U3.out))
    have HW3 := Lib.hid hw3
    have NE := Lib.hid hEn
    have z0 := C3.out.blk.cell 0
    have zl := C3.out.blk.lt
    have t1 := C3.out.tree.cell 1
    have tl := C3.out.tree.lt
    clear hC2 hK2 hw3 hEn lo RN PL GB
    go_upto_region 2 with fail
    rw [← HW3.out]
    go_wp2_with fail
    go_ret2
    exact .inl ⟨NE.out, tv2, ov2, olds, rfl, C3.out, K3.out⟩
  · simp only [List.nil_append] at hC2
    obtain ⟨ux, rfl⟩ : ∃ ux, sx = strB ux := ⟨nums sx, (strB_nums sx).symm⟩
    obtain ⟨q, hq⟩ : ∃ q, q = w2.heap.size := ⟨_, rfl⟩
    obtain ⟨D, hD⟩ : ∃ D : Int, D = ((d + 1 : Nat) : Int) := ⟨_, rfl⟩
    rw [← hD]
    obtain ⟨w3, hw3⟩ : ∃ w3, w3 = w2.alloc (.cells #[.int .i64 D, .slice A2 ents1.length c2, .string (strB ux)] 79) := ⟨_, rfl⟩
    have U3 : Hid (Below w2.heap.size w2 w3) := by rw [hw3]; exact (Below.refl _ _).alloc (Nat.le_refl _) _
    have N3 : Hid (Held w3 q 79 #[.int .i64 D, .slice A2 ents1.length c2, .string (strB ux)]) := by rw [hw3]; exact Held.new _ _ _ hq
    have C3 := Lib.hid (hC2.under U3.out)
    have K3 : Hid (KpC B C w w3) := (KpC.under B1.out).trans (hK2.trans (KpC.under U3.out))
    have EO := Lib.hid (EK.out.ok es es1 hEs OKR.out.2.1 OKR.out.1)
    have RR := Lib.hid hR
    have ES := Lib.hid hEs
    have LF := hR.few
    have PT := Lib.hid (PL.out w3 tv2 ov2 f1 news olds C3.out (Nat.le_trans SZ.out.2 K3.out.size) (Nat.le_trans SZ.out.1 K3.out.size) (by rw [List.nil_append]; have := RM.out; omega) d (by have := RM.out; omega) ents1 es1 bs1 A2 c2 w1.heap.size ux (hO2.below_ U3.out) EO.out.2 hR.nd hR.some_ (by have := hR.fit; omega) RM.out.2.1 (by have := RM.out; omega))
    unfold noV at PT
    rw [← hD] at PT
    have HW3 := Lib.hid hw3
    have HQ := Lib.hid hq
    obtain ⟨m1, hm1⟩ : ∃ m, m = ents1.length := ⟨_, rfl⟩
    rw [← hm1] at PT HW3 ⊢
    have n0 := N3.out.cell 0
    have n1 := N3.out.cell 1
    rw [← hm1] at n1
    have n2 := N3.out.cell 2
    have nl := N3.out.lt
    have OL : Hid (olds.length ≤ 2 * d + 1) := lo
    clear hC2 hK2 hw3 hq hEs hR hO2 cnt2 lo RN PL hD hm1 LF
    go_upto_region 2 with fail
    rw [← HW3.out, ← HQ.out]
    go_wp2_with fail
    refine PT.out.mono ?_
    rintro x w4 ⟨root', f2, bs2, news2, tv4, rfl, hP, hC4, hK4, cnt4⟩
    simp only [List.nil_append] at hC4
    obtain ⟨A4, c4, rfl, _, _⟩ := hC4.ol.any
    obtain ⟨ndp, hfo, kept, hS, hT⟩ := run_plain AT.out OKR.out.2.2 EO.out.1 RR.out hP
    have GBK := Lib.hid (GB.out w4 f2 key (.func (.func k) #[] caps) tv4 _ hC4.blk hC4.tree hC4.mem olds C A4 c4 hC4.ol (by have := OL.out; have := RM.out; omega) ndp hfo)
    have C4 := Lib.hid hC4
    have K4 : Hid (KpC B C w w4) := K3.out.trans hK4
    have ST := Lib.hid (And.intro hS hT)
    obtain ⟨ri, hri⟩ : ∃ ri : Int, ri = (root' : Int) := ⟨_, rfl⟩
    rw [← hri]
    have HRI := Lib.hid hri
    have z4 := C4.out.blk.cell 4
    have zl := C4.out.blk.lt
    obtain ⟨m4, hm4⟩ : ∃ m, m = olds.length := ⟨_, rfl⟩
    rw [← hm4] at z4 GBK
    have HM4 := Lib.hid hm4
    clear hP hC4 hK4 cnt4 ndp hfo hS hT hri hm4 PT n0 n1 n2 nl
    go_wp2_with fail
    refine GBK.out.mono ?_
    rintro x w5 ⟨rfl, m5, k5⟩
    have FIN : Hid (RunE B C w cb t p root n f key (.func (.func k) #[] caps) es bs E (.returned (.tuple #[.int .i64 ri, .bool true])) w5) := by
      rw [HRI.out]
      exact .inr ⟨es1, _, root', bs2, olds, news ++ news2, kept, tv4, _, ES.out, rfl, ST.out.1, ST.out.2, C4.out.kp k5 m5, K4.out.trans (KpC.of_kp k5)⟩
    clear m5 k5 GBK z4 zl
    go_wp2_with fail
    go_ret2
    exact FIN.out
end Go.Proofs.YtnogmgnbhcmajaaDoor
