/-
  blob: the contract of lay's work.
-/
import Derived.Test.YtlofpbmceipkkaaM25
namespace Go.Proofs.Ytlofpbmceipkkaa
open Go.RowKit Wal Blob

theorem OwnI.ty {w : World} {base : Nat} {v : Value} {bs : List Nat} (h : OwnI w base v bs) : ∀ g, v.ownBlock = some g → ∃ cur, Held w g 3 cur := by
  intro g hg
  rcases h.2 with ⟨rfl, _⟩ | ⟨g', cap, cur, rfl, _, hh, _⟩
  · cases hg
  · have e : g' = g := by simpa [Value.ownBlock] using hg
    subst e
    exact ⟨cur, hh⟩
theorem grown_held {w w' : World} {base : Nat} {v : Value} {bs : List Nat} (h : OwnI w base v bs) (hg : w.grownBy w' v.ownBlock) {r t : Nat} {cs : Array Value} (k : Held w r t cs) (ht : t ≠ 3) : Held w' r t cs :=
  (hg.block r k.lt (fun e => by
    obtain ⟨cur, hc⟩ := h.ty r e.symm
    exact Held.ne_ k hc ht rfl)).trans k
theorem MemAt.grown_ {B p n : Nat} {f : Nat → Option KB} {w w' : World} {base : Nat} {v : Value} {bs : List Nat} (m : MemAt B w p n f) (h : OwnI w base v bs) (hg : w.grownBy w' v.ownBlock) : MemAt B w' p n f := by
  obtain ⟨g, ad, m⟩ := m
  exact ⟨g, ad, grown_held h hg m.blk (by decide), grown_held h hg m.row (by decide), fun i x hx => by
    obtain ⟨a1, a2, a3⟩ := m.each i x hx
    exact ⟨a1, grown_held h hg a2 (by decide), a3⟩, m.inj, m.base, m.small⟩
theorem KpE.past {B q C : Nat} {w W W' : World} (h : KpE B q w W) (hb : Below C W W') (hC : w.heap.size ≤ C) : KpE B q w W' :=
  ⟨hb.os.trans h.os, hb.tape.trans h.tape, hb.output.trans h.output, Nat.le_trans h.size hb.size, fun k hk hq hf => (hb.block k (by omega)).trans (h.block k hk hq hf)⟩
/-- How many parts, and blocks, so many bytes need. -/
def needB (k : Nat) : Nat := 1 + (k + 511) / 512
def LayOK (B : Nat) (n p b2 : Nat) (f : Nat → Option KB) (l : List Nat) (w w' : World) : Prop :=
  ∃ A c h parts f', Held w' b2 59 #[.slice A (h :: parts).length c] ∧ IntsAt w' A (h :: parts) ∧ LaidAt n f f' h parts l ∧ MemAt B w' p n f' ∧ KpE B b2 w w'
def LayNo (B : Nat) (n p b2 : Nat) (f : Nat → Option KB) (l : List Nat) (w w' : World) : Prop :=
  ∃ A c ts, Held w' b2 59 #[.slice A ts.length c] ∧ IntsAt w' A ts ∧ Tak n f ts ∧ (∀ j, j < n → fill0 f ts j ≠ none) ∧ ts.length < needB l.length ∧ MemAt B w' p n (fill0 f ts) ∧ KpE B b2 w w'
set_option maxRecDepth 100000 in
set_option maxHeartbeats 3200000 in
theorem lay1_any (B : Nat) (w : World) (hBw : B ≤ w.heap.size) (p n : Nat) (f : Nat → Option KB) (hm : MemAt B w p n f) (l : List Nat) (h1 : 1 ≤ l.length) (h2 : l.length ≤ 49152) (hb : ∀ x ∈ l, x < 256) (b0 b1 b2 : Nat) (g0 : Held w b0 9 #[strV l]) (g1 : Held w b1 56 #[sto p]) (g2 : Held w b2 59 #[.slice none 0 0]) :
    Calls Try.prog 42 #[.pointer (some ⟨b0, 0, none⟩), .pointer (some ⟨b1, 0, none⟩), .pointer (some ⟨b2, 0, none⟩)] w fun e w' => (e = .returned (.tuple #[]) ∧ LayOK B n p b2 f l w w') ∨ (e = panicsWith 12 ∧ LayNo B n p b2 f l w w') := by
  have hn4 : n ≤ 4096 := by
    obtain ⟨g, ad, h⟩ := hm
    exact h.small
  have HBY := Lib.hid hb
  have M0 := Lib.hid hm
  have G := Lib.hid (And.intro g0 (And.intro g1 g2))
  have c0 : w.cell? ⟨b0, 0, none⟩ = some (strV l) := g0.cell 0
  have PA := Lib.hid (partsOf_any w l.length (by omega))
  have sz := strB_size l
  obtain ⟨np, hnp⟩ : ∃ np, np = (l.length + 511) / 512 := ⟨_, rfl⟩
  have HNP := Lib.hid hnp
  have np9 : np ≤ 96 := by omega
  rw [← hnp] at PA
  have ne : Hid (b0 ≠ b2 ∧ b1 ≠ b2) := ⟨Held.ne_ g0 g2 (by decide), Held.ne_ g1 g2 (by decide)⟩
  obtain ⟨sv, hsv⟩ : ∃ sv, sv = sto p := ⟨_, rfl⟩
  have HS := Lib.hid hsv
  rw [← HS.out] at G
  unfold sto at hsv
  subst hsv
  unfold strV at c0
  clear hm hb g0 g1 g2 hnp
  go_enter Try.func42, Try.ntmps42
  go_wp2_with fail
  refine PA.out.mono ?_
  rintro e w1 ⟨rfl, rfl⟩
  clear PA c0
  go_wp2_with fail
  go_loopw [10] (fun i wr => ∃ k : Nat, k ≤ 1 + np ∧ i = .int .i64 k ∧ Hid (∃ ts A c, ts.length = k ∧ Tak n f ts ∧ MemAt B wr p n (fill0 f ts) ∧ KpE B b2 w wr ∧ Held wr b2 59 #[.slice A k c] ∧ OwnI wr w.heap.size (.slice A k c) ts)) (fun i _ => 1 + np - (intOf i).toNat)
  case atStart => exact ⟨0, by omega, rfl, [], none, 0, rfl, Tak.nil _ _, by rw [fill0_nil]; exact M0.out, KpE.of (Kp.refl _ _), G.out.2.2, OwnI.nil _ _⟩
  case round =>
    obtain ⟨k, hk, rfl, HK⟩ := hrel
    obtain ⟨ts, A, c, hts, htk, hmm, hkp, hbx, hown⟩ := HK.out
    have TK := Lib.hid htk
    have KP := Lib.hid hkp
    have BX := Lib.hid hbx
    have OW := Lib.hid hown
    have MM := Lib.hid hmm
    have TL := Lib.hid hts
    have Q0 := Lib.hid (hkp.held G.out.1 ne.out.1 (by decide) (by decide))
    have Q1 := Lib.hid (hkp.held G.out.2.1 ne.out.2 (by decide) (by decide))
    have c1 : wr.cell? ⟨b1, 0, none⟩ = some (.iface 24 (.pointer (some ⟨p, 0, none⟩))) := Q1.out.cell 0
    clear HK hts htk hmm hkp hbx hown
    by_cases hlt : k < 1 + np
    · have TA := Lib.hid (take_any B wr p n _ (Nat.le_trans hBw KP.out.size) MM.out)
      have lk : (k : Int) < 1 + (np : Int) := by omega
      go_wp2_with fail
      rw [meets_take]
      case hn => kernel_rfl
      go_simp
      refine TA.out.mono ?_
      rintro e w3 (⟨i, hl, rfl, m3, k3⟩ | ⟨hfull, rfl, rfl⟩)
      · have T3 := Lib.hid (TK.out.more hl)
        have LS := Lib.hid hl
        obtain ⟨t, ht⟩ : ∃ t : Nat, t = i + 1 := ⟨_, rfl⟩
        rw [show (i : Int) + 1 = (t : Int) by omega]
        have M3 : Hid (MemAt B w3 p n (fill0 f (ts ++ [t]))) := by rw [ht, ← fill0_snoc]; exact m3
        rw [← ht] at T3
        have K3 := Lib.hid k3
        have BX3 := Lib.hid (k3.held BX.out (by decide) (by decide))
        have OW3 := Lib.hid (OW.out.kp k3)
        have HD := Lib.hid (heed_ok w3)
        have c2 : w3.cell? ⟨b2, 0, none⟩ = some (.slice A k c) := BX3.out.cell 0
        have KP3 : Hid (KpE B b2 w w3) := KP.out.trans (KpE.of k3)
        clear m3 k3 TA hl ht c1
        go_wp2_with fail
        refine HD.out.mono ?_
        rintro e w4 ⟨rfl, rfl⟩
        clear HD
        have R2 : Hid (OwnI (w3.alloc (.cells #[.int .i64 (t : Int)] 3)) w.heap.size (.slice A k c) ts) := OW3.out.alloc _
        have I2 := Lib.hid (ints_one w3 t w3.heap.size rfl)
        have BX4 := Lib.hid (BX3.out.alloc (.cells #[.int .i64 (t : Int)] 3))
        have K4 : Hid (Kp B w3 (w3.alloc (.cells #[.int .i64 (t : Int)] 3))) := (Kp.refl B w3).alloc _
        have SZ : Hid (w.heap.size ≤ (w3.alloc (.cells #[.int .i64 (t : Int)] 3)).heap.size) := Nat.le_trans KP3.out.size K4.out.size
        go_wp2_with (at_builtin; refine wpList_append_ints rfl (.tmp 19) (.tmp 21) rfl w.heap.size _ _ rfl R2.out (some ⟨w3.heap.size, 0, none⟩) 1 1 [t] rfl rfl I2.out (by rw [TL.out]; omega) SZ.out ?_; intro v5 w5 hown5 hg5 hv5; obtain ⟨A5, c5, rfl, _⟩ := hown5.any; have LK2 : (ts ++ [t]).length = k + 1 := (by rw [List.length_append, TL.out]; rfl); rw [LK2] at hown5 ⊢; have R5 := Lib.hid hown5; have B5 : Hid (Below w.heap.size (w3.alloc (.cells #[.int .i64 (t : Int)] 3)) w5) := (Below.refl _ _).grown hg5 SZ.out (fun x hx => (R2.out.lt x hx).1); have H5 : Hid (Held w5 b2 59 #[.slice A k c]) := BX4.out.below B5.out G.out.2.2.lt; have e5 : w5.cell? ⟨b2, 0, none⟩ = some (.slice A k c) := H5.out.cell 0; have z5 := H5.out.frozen 0; have M5 : Hid (MemAt B w5 p n (fill0 f (ts ++ [t]))) := MemAt.grown_ (M3.out.under ((Below.refl _ _).alloc (Nat.le_refl _) _)) R2.out hg5; have KP5 : Hid (KpE B b2 w w5) := (KP3.out.trans (KpE.of K4.out)).past B5.out (Nat.le_refl _); clear hown5 hg5 hv5 LK2)
        have W6 : Hid (MemAt B (w5.setCell ⟨b2, 0, none⟩ (.slice A5 (k + 1) c5)) p n (fill0 f (ts ++ [t])) ∧ KpE B b2 w (w5.setCell ⟨b2, 0, none⟩ (.slice A5 (k + 1) c5)) ∧ Held (w5.setCell ⟨b2, 0, none⟩ (.slice A5 (k + 1) c5)) b2 59 #[.slice A5 (k + 1) c5] ∧ OwnI (w5.setCell ⟨b2, 0, none⟩ (.slice A5 (k + 1) c5)) w.heap.size (.slice A5 (k + 1) c5) (ts ++ [t])) :=
          ⟨M5.out.set_ H5.out (by decide) (by decide) (by decide) 0 _, KP5.out.trans (KpE.set_ _ _ _ _ _), H5.out.set_ 0 _, R5.out.only ((Only.refl [b2] _).setCell (p := ⟨b2, 0, none⟩) (.inl (by simp)) _) (fun x hx hmem => by
            have e1 : x = b2 := by simpa using hmem
            have e2 := (R5.out.lt x hx).1
            have e3 := G.out.2.2.lt
            omega)⟩
        go_roundw
        case rel => exact ⟨k + 1, by omega, by go_num, ts ++ [t], A5, c5, by rw [List.length_append, TL.out]; rfl, T3.out, W6.out⟩
        case measure => simp [intOf]; omega
      · have FU := Lib.hid hfull
        have HD := Lib.hid (heed_bad _ 12 (by decide) : Calls Try.prog 37 #[.int .i64 12] wr _)
        clear hfull TA c1
        go_wp2_with fail
        refine HD.out.mono ?_
        rintro e w4 ⟨rfl, rfl⟩
        clear HD
        go_wp2_with fail
        obtain ⟨A', c', e', _, hi'⟩ := OW.out.any
        injection e' with e1 _ _
        subst e1
        have bx := BX.out
        rw [← TL.out] at bx
        exact ⟨rfl, .inr ⟨rfl, A, c, ts, bx, hi', TK.out, FU.out, by unfold needB; rw [TL.out, ← HNP.out]; exact hlt, MM.out, KP.out⟩⟩
    · obtain rfl : k = 1 + np := by omega
      obtain ⟨A', c', e', hcap, hi'⟩ := OW.out.any
      injection e' with e1 e3 e2
      subst e1 e2
      clear e3
      obtain ⟨h, parts, rfl⟩ : ∃ h parts, ts = h :: parts := by
        rcases ts with _ | ⟨h, parts⟩
        · have := TL.out
          simp at this
          omega
        · exact ⟨h, parts, rfl⟩
      have pl : parts.length = np := by have := TL.out; simp at this; omega
      have PLH := Lib.hid pl
      obtain ⟨g, off, cs, rfl, hgr, hgc⟩ := hi' (by simp)
      have SO := Lib.hid (sort_same wr (some ⟨g, off, none⟩) (1 + np) c (h :: parts) hi' TL.out TK.out.rise (by omega))
      have c2 : wr.cell? ⟨b2, 0, none⟩ = some (.slice (some ⟨g, off, none⟩) (1 + np) c) := BX.out.cell 0
      have I0 := Lib.hid hi'
      have np1 : 1 ≤ np := by have := HNP.out; omega
      rw [TL.out] at hcap
      clear hi' hgr hgc pl
      go_wp2_with fail
      refine SO.out.mono ?_
      rintro e w3 ⟨rfl, hb3⟩
      have B3 := Lib.hid hb3
      have I3 := Lib.hid (I0.out.below hb3)
      have X0 := Lib.hid (Q0.out.below hb3 Q0.out.lt)
      have X1 := Lib.hid (Q1.out.below hb3 Q1.out.lt)
      have X2 := Lib.hid (BX.out.below hb3 BX.out.lt)
      have d0 : w3.cell? ⟨b0, 0, none⟩ = some (.string (strB l)) := X0.out.cell 0
      have d1 : w3.cell? ⟨b1, 0, none⟩ = some (.iface 24 (.pointer (some ⟨p, 0, none⟩))) := X1.out.cell 0
      have d2 : w3.cell? ⟨b2, 0, none⟩ = some (.slice (some ⟨g, off, none⟩) (1 + np) c) := X2.out.cell 0
      have dh : w3.cell? ⟨g, off, none⟩ = some (.int .i64 (h : Int)) := by
        obtain ⟨g', off', cs', e, hh', hc'⟩ := I3.out (by simp)
        cases e
        rw [hh'.cell]
        exact hc' 0 h rfl
      have nn : (0 : Int) < 1 + (np : Int) := by omega
      have n1 : (1 : Int) ≤ 1 + (np : Int) := by omega
      have nc : ¬ c = 1 := by omega
      have n2 : 1 ≤ 1 + np := by omega
      have n3 : 1 ≤ c := by omega
      have e4 : 1 + np - 1 = np := by omega
      clear hb3 SO c1 c2
      go_upto_region 7 with fail
      refine wp_region_noPanic ?_
      refine wp_region_held_drew (S := fun w' => w'.cell? ⟨b0, 0, none⟩ = some (.string (strB l)) ∧ w'.cell? ⟨b1, 0, none⟩ = some (.iface 24 (.pointer (some ⟨p, 0, none⟩))) ∧ w'.cell? ⟨b2, 0, none⟩ = some (.slice (some ⟨g, off, none⟩) (1 + np) c) ∧ w'.cell? ⟨g, off, none⟩ = some (.int .i64 (h : Int))) (by kernel_rfl) ⟨d0, d1, d2, dh⟩ (fun hHeld => ?_)
      refine take_ (i := 0) (v := ?_) 26 rfl rfl (by kernel_rfl) (by kernel_rfl) (by kernel_rfl) (fun _ _ _ h => h) (Or.inl ⟨by rfl, ?_⟩) (by assumption) ?_
      rotate_left
      · (intro wS hSw; (try dsimp only at hSw); go_simp; try with_reducible rfl)
      simp only [Act.put, List.setIfInBounds_toArray, List.set_cons_zero, List.set_cons_succ]
      refine take_ (i := 1) (v := ?_) 27 rfl rfl (by kernel_rfl) (by kernel_rfl) (by kernel_rfl) (fun _ _ _ h => h) (Or.inl ⟨by rfl, ?_⟩) (by assumption) ?_
      rotate_left
      · (intro wS hSw; (try dsimp only at hSw); go_simp; try with_reducible rfl)
      simp only [Act.put, List.setIfInBounds_toArray, List.set_cons_zero, List.set_cons_succ]
      refine take_ (i := 2) (v := ?_) 28 rfl rfl (by kernel_rfl) (by kernel_rfl) (by kernel_rfl) (fun _ _ _ h => h) (Or.inl ⟨by rfl, ?_⟩) (by assumption) ?_
      rotate_left
      · (intro wS hSw; (try dsimp only at hSw); go_simp; try with_reducible rfl)
      simp only [Act.put, List.setIfInBounds_toArray, List.set_cons_zero, List.set_cons_succ]
      refine take_ (i := 3) (v := ?_) 29 rfl rfl (by kernel_rfl) (by kernel_rfl) (by kernel_rfl) (fun _ _ _ h => h) (Or.inl ⟨by rfl, ?_⟩) (by assumption) ?_
      rotate_left
      · (intro wS hSw; (try dsimp only at hSw); go_simp; try with_reducible rfl)
      simp only [Act.put, List.setIfInBounds_toArray, List.set_cons_zero, List.set_cons_succ]
      refine take_ (i := 4) (v := ?_) 30 rfl rfl (by kernel_rfl) (by kernel_rfl) (by kernel_rfl) (fun _ _ _ h => h) (Or.inl ⟨by rfl, ?_⟩) (by assumption) ?_
      rotate_left
      · (intro wS hSw; (try dsimp only at hSw); go_simp; try with_reducible rfl)
      simp only [Act.put, List.setIfInBounds_toArray, List.set_cons_zero, List.set_cons_succ]
      refine take_ (i := 5) (v := ?_) 31 rfl rfl (by kernel_rfl) (by kernel_rfl) (by kernel_rfl) (fun _ _ _ h => h) (Or.inl ⟨by rfl, ?_⟩) (by assumption) ?_
      rotate_left
      · (intro wS hSw; (try dsimp only at hSw); go_simp; try with_reducible rfl)
      simp only [Act.put, List.setIfInBounds_toArray, List.set_cons_zero, List.set_cons_succ]
      refine take_ (i := 6) (v := ?_) 32 rfl rfl (by kernel_rfl) (by kernel_rfl) (by kernel_rfl) (fun _ _ _ h => h) (Or.inl ⟨by rfl, ?_⟩) (by assumption) ?_
      rotate_left
      · (intro wS hSw; (try dsimp only at hSw); go_simp; try with_reducible rfl)
      simp only [Act.put, List.setIfInBounds_toArray, List.set_cons_zero, List.set_cons_succ]
      refine take_ (i := 7) (v := ?_) 33 rfl rfl (by kernel_rfl) (by kernel_rfl) (by kernel_rfl) (fun _ _ _ h => h) (Or.inl ⟨by rfl, ?_⟩) (by assumption) ?_
      rotate_left
      · (intro wS hSw; (try dsimp only at hSw); go_simp; try with_reducible rfl)
      simp only [Act.put, List.setIfInBounds_toArray, List.set_cons_zero, List.set_cons_succ]
      refine take_ (i := 8) (v := ?_) 34 rfl rfl (by kernel_rfl) (by kernel_rfl) (by kernel_rfl) (fun _ _ _ h => h) (Or.inl ⟨by rfl, ?_⟩) (by assumption) ?_
      rotate_left
      · (intro wS hSw; (try dsimp only at hSw); go_simp; try with_reducible rfl)
      simp only [Act.put, List.setIfInBounds_toArray, List.set_cons_zero, List.set_cons_succ]
      refine one_ (i := 9) _ (by kernel_rfl) rfl (fun K hK => ?_)
      go_simp
      obtain ⟨w4, hw4⟩ : ∃ w4, w4 = (w3.alloc (.cells #[.nilIface, .int .i64 0, .int .i64 0, .slice none 0 0] 61)).drew := ⟨_, rfl⟩
      obtain ⟨b5, hb5⟩ : ∃ b5, b5 = w3.heap.size := ⟨_, rfl⟩
      have B4 : Hid (Below w3.heap.size w3 w4) := by rw [hw4]; exact ((Below.refl _ _).alloc (Nat.le_refl _) _).drew
      have H4 : Hid (Held w4 b5 61 #[.nilIface, .int .i64 0, .int .i64 0, .slice none 0 0]) := by rw [hw4]; exact (Held.new _ _ _ hb5).drew
      have LB : Hid (w3.heap.size ≤ b5) := by rw [hb5]; exact Nat.le_refl _
      rw [← hw4, ← hb5]
      clear hw4 hb5 hHeld
      have f0 := (B4.out.cell (p := ⟨b0, 0, none⟩) (block_lt d0)).trans d0
      have f1 := (B4.out.cell (p := ⟨b1, 0, none⟩) (block_lt d1)).trans d1
      have f2 := (B4.out.cell (p := ⟨b2, 0, none⟩) (block_lt d2)).trans d2
      have fh := (B4.out.cell (p := ⟨g, off, none⟩) (block_lt dh)).trans dh
      have r0 : w4.cell? ⟨b5, 0, none⟩ = some .nilIface := H4.out.cell 0
      have r1 : w4.cell? ⟨b5, 1, none⟩ = some (.int .i64 0) := H4.out.cell 1
      have r2 : w4.cell? ⟨b5, 2, none⟩ = some (.int .i64 0) := H4.out.cell 2
      have r3 : w4.cell? ⟨b5, 3, none⟩ = some (.slice none 0 0) := H4.out.cell 3
      have y0 := H4.out.frozen 0
      have y1 := H4.out.frozen 1
      have y2 := H4.out.frozen 2
      have y3 := H4.out.frozen 3
      refine hK.out _ _ ⟨f0, f1, f2, fh⟩ (fun hHeld => ?_)
      clear hK K
      refine one_ (i := 10) _ (by kernel_rfl) rfl (fun K hK => ?_)
      go_simp
      have R1 := H4.out.set_ 0 (.iface 24 (.pointer (some ⟨p, 0, none⟩)))
      have R2 := R1.set_ 1 (.int .i64 (h : Int))
      have R3 := R2.set_ 2 (.int .i64 (l.length : Int))
      have R4 := R3.set_ 3 (.slice (some ⟨g, off + 1, none⟩) np (c - 1))
      have P4 : Below w3.heap.size w3 ((((w4.setCell ⟨b5, 0, none⟩ (.iface 24 (.pointer (some ⟨p, 0, none⟩)))).setCell ⟨b5, 1, none⟩ (.int .i64 (h : Int))).setCell ⟨b5, 2, none⟩ (.int .i64 (l.length : Int))).setCell ⟨b5, 3, none⟩ (.slice (some ⟨g, off + 1, none⟩) np (c - 1))) :=
        (((B4.out.setCell (p := ⟨b5, 0, none⟩) LB.out _).setCell (p := ⟨b5, 1, none⟩) LB.out _).setCell (p := ⟨b5, 2, none⟩) LB.out _).setCell (p := ⟨b5, 3, none⟩) LB.out _
      generalize (((w4.setCell ⟨b5, 0, none⟩ (.iface 24 (.pointer (some ⟨p, 0, none⟩)))).setCell ⟨b5, 1, none⟩ (.int .i64 (h : Int))).setCell ⟨b5, 2, none⟩ (.int .i64 (l.length : Int))).setCell ⟨b5, 3, none⟩ (.slice (some ⟨g, off + 1, none⟩) np (c - 1)) = w5 at *
      have H5 : Hid (Held w5 b5 61 #[.iface 24 (.pointer (some ⟨p, 0, none⟩)), .int .i64 (h : Int), .int .i64 (l.length : Int), .slice (some ⟨g, off + 1, none⟩) np (c - 1)]) := R4
      have B5 := Lib.hid P4
      have k0 := (P4.cell (p := ⟨b0, 0, none⟩) (block_lt d0)).trans d0
      have k1 := (P4.cell (p := ⟨b1, 0, none⟩) (block_lt d1)).trans d1
      have k2 := (P4.cell (p := ⟨b2, 0, none⟩) (block_lt d2)).trans d2
      have kh := (P4.cell (p := ⟨g, off, none⟩) (block_lt dh)).trans dh
      clear R1 R2 R3 R4 P4 f0 f1 f2 fh r0 r1 r2 r3 y0 y1 y2 y3
      refine hK.out _ _ ⟨k0, k1, k2, kh⟩ (fun hHeld => ?_)
      clear hK K
      refine wpAnyH_done (by kernel_rfl) ?_ _
      refine NoPanic.normal ?_
      clear d0 d1 d2 dh nn n1 nc n2 n3 e4 hHeld
      have q0 : w5.cell? ⟨b5, 0, none⟩ = some (.iface 24 (.pointer (some ⟨p, 0, none⟩))) := H5.out.cell 0
      have q1 : w5.cell? ⟨b5, 1, none⟩ = some (.int .i64 (h : Int)) := H5.out.cell 1
      have q2 : w5.cell? ⟨b5, 2, none⟩ = some (.int .i64 (l.length : Int)) := H5.out.cell 2
      have q3 : w5.cell? ⟨b5, 3, none⟩ = some (.slice (some ⟨g, off + 1, none⟩) np (c - 1)) := H5.out.cell 3
      have M5 : Hid (MemAt B w5 p n (fill0 f (h :: parts))) := (MM.out.under B3.out).under B5.out
      have I5 := Lib.hid (I3.out.below B5.out)
      have IP : Hid (IntsAt w5 (some ⟨g, off + 1, none⟩) parts) := fun _ => by
        obtain ⟨g', off', cs', e, hh', hc'⟩ := I5.out (by simp)
        cases e
        exact ⟨g, off + 1, cs', rfl, hh', fun i x hx => by rw [Nat.add_assoc, Nat.add_comm 1 i]; exact hc' (i + 1) x hx⟩
      have fine : Fine h parts := ⟨(TK.out.each h (by simp)).1, TK.out.rise, fun x hx => by have := (TK.out.each x hx).2.1; omega, by rw [PLH.out]; exact np9⟩
      have FL := fill_any B w5 p n _ M5.out h parts l fine h1 h2 (by rw [PLH.out]; exact HNP.out) HBY.out (fun v hv => ⟨List.replicate 512 0, by
        unfold fill0
        rw [show v - 1 + 1 = v by have := (TK.out.each v hv).1; omega, if_pos hv]
        rfl⟩) (some ⟨g, off + 1, none⟩) (c - 1) IP.out
      rw [PLH.out, ← HS.out] at FL
      unfold blobV blobCs strV at FL
      have FLH := Lib.hid FL
      clear FL fine
      go_wp2_with fail
      refine FLH.out.mono ?_
      rintro e w6 ⟨rfl, m6, k6⟩
      have M6 := Lib.hid m6
      have K6 := Lib.hid k6
      clear m6 k6 FLH
      go_wp2_with fail
      go_end0
      have bx := K6.out.held ((BX.out.below B3.out BX.out.lt).below B5.out (Nat.lt_of_lt_of_le BX.out.lt B3.out.size)) (by decide) (by decide)
      rw [← TL.out] at bx
      have m6 := M6.out
      rw [← PLH.out] at m6
      exact .inl ⟨rfl, some ⟨g, off, none⟩, c, h, parts, _, bx, I5.out.kp K6.out, fill_laid TK.out hn4 h1 h2 (by rw [PLH.out]; exact HNP.out) HBY.out, m6, KP.out.trans (KpE.of (((Kp.under B3.out).trans (Kp.under B5.out)).trans K6.out))⟩
end Go.Proofs.Ytlofpbmceipkkaa
