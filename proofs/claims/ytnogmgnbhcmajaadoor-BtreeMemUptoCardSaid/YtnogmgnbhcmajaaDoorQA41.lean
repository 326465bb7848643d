/-
  btree: a change under way: lay. · btree: a change under way: read.
-/
import Derived.Test.YtnogmgnbhcmajaaDoorQA38
namespace Go.Proofs.YtnogmgnbhcmajaaDoor
open Go.RowKit Wal

theorem KpC.past {B C base : Nat} {w w' w'' : World} {v : Value} {l : List En} (h : KpC B C w w') (ho : OwnEn w' base v l) (hb : w.heap.size ≤ base) (hg : w'.grownBy w'' v.ownBlock) : KpC B C w w'' :=
  ⟨hg.os.trans h.os, hg.tape.trans h.tape, hg.output.trans h.output, Nat.le_trans h.size hg.size, fun k hk hf => (hg.block k (Nat.lt_of_lt_of_le hk h.size) (fun e => by
    have := (World.ownsRow.lt ho k e.symm).1
    omega)).trans (h.block k hk hf)⟩
theorem KpS.of_grown {base : Nat} {w w' : World} {v : Value} {l : List En} (ho : OwnEn w base v l) (hg : w.grownBy w' v.ownBlock) : KpS [77] 0 w w' :=
  (KpS.refl _ _ _).grown ho hg (by simp) (Nat.zero_le _)
set_option maxRecDepth 100000 in
theorem wp_append_e {w : World} {o : Oper} {a : Act} {K : Act → World → Prop} {Q : Exit → Act → World → Prop} (s x : Operand)
    (ho : o.op = .call { callee := .builtin .append, args := #[s, x], argTypes := #[74, 74] })
    (base : Nat) (v : Value) (k : List En) (hs : a.eval s = v) (hown : OwnEn w base v k)
    (A : Option Addr) (m c : Nat) (l : List En) (hx : a.eval x = .slice A m c) (hl : l.length = m) (hA : EAt w A l) (hr : k.length + m ≤ 100000) (hbase : base ≤ w.heap.size)
    (h : ∀ v' w', OwnEn w' base v' (k ++ l) → w.grownBy w' v.ownBlock → K (a.put o.dst v') w') : o.wp Tryd.prog a w K Q := by
  obtain ⟨v', w', hrun, h2, h3⟩ := run_append_e base o.type v k hown A m c l hl hA hr hbase
  unfold Oper.wp execOp
  simp only [ho, resolve, invoke, builtin, Sem.run_bind, Sem.run_pure, Result.andThen_ok, List.map_toArray, List.map_cons, List.map_nil, hs, hx, hrun]
  exact h v' w' h2 h3
theorem pad_full {l : List Nat} (h : l.length = 512) : pad l = l := by unfold pad; rw [h]; simp
theorem room_of {n : Nat} {f : Nat → Option KB} (h : cnt n f < n) : ∃ j, j < n ∧ f j = none := Classical.byContradiction fun hc => by
  have : cnt n f = n := cnt_fullB n (fun j hj e => hc ⟨j, hj, e⟩)
  omega
theorem cnt_put2 (f : Nat → Option KB) (i n : Nat) (x y : KB) (hf : f i = none) (hi : i < n) : cnt n (put (put f i (some x)) i (some y)) = cnt n f + 1 := by
  have h := cnt_same (f := put f i (some x)) (f' := put (put f i (some x)) i (some y)) (fun j => by
    unfold put
    by_cases c : j = i
    · simp [c]
    · simp [c]) n
  rw [h, cnt_putB f i x hf n, if_pos hi]
def LayI (B C : Nat) (w2 wr : World) (cb t p root n : Nat) (f : Nat → Option KB) (key : List Nat) (ed ov : Value) (taken old : List Nat) (d : Nat) (ps : List (List En)) (es : List En) (bs : List Nat) (j : Nat) (v : Value) : Prop :=
  ∃ ks news f' tv', Laying n f f' d ps j es bs ks news ∧ Chg B C wr cb t p root n f' key ed tv' ov (taken ++ news) old ∧ OwnEn wr w2.heap.size v (leads ks) ∧ KpC B C w2 wr ∧ cnt n f' = cnt n f + j ∧ (ks = [] → v = .slice none 0 0)
def LayE (B C : Nat) (w : World) (cb t p root n : Nat) (f : Nat → Option KB) (key : List Nat) (ed ov : Value) (taken old : List Nat) (d : Nat) (ents es : List En) (bs : List Nat) (x : Ending) (w' : World) : Prop :=
  ∃ f' ks news v' tv', x = .returned v' ∧ LaidN n f f' d ents es bs ks news ∧ OwnEn w' w.heap.size v' (leads ks) ∧ Chg B C w' cb t p root n f' key ed tv' ov (taken ++ news) old ∧ KpC B C w w' ∧ cnt n f' = cnt n f + news.length ∧ (ks = [] → v' = .slice none 0 0)
set_option maxRecDepth 100000 in
set_option maxHeartbeats 6400000 in
theorem lay_any (B C : Nat) (w : World) (cb t p root n : Nat) (f : Nat → Option KB) (key : List Nat) (ed tv ov : Value) (taken old : List Nat) (h : Chg B C w cb t p root n f key ed tv ov taken old) (hB : B ≤ w.heap.size) (hC : C ≤ w.heap.size) (few : taken.length ≤ 80000)
    (d : Nat) (hd : d ≤ 200) (ents es : List En) (bs : List Nat) (hnd : Nd f d ents es bs) (hok : OkAll es) (hfit : totalE ents ≤ 829) (h2 : 0 < d → 2 ≤ ents.length) (hn4 : n ≤ 4096) (room : cnt n f + 2 ≤ n)
    (base : Nat) (A : Option Addr) (c : Nat) (u : List Nat) (ho : OwnEn w base (.slice A ents.length c) ents) :
    Calls Tryd.prog 62 #[.pointer (some ⟨cb, 0, none⟩), noV (d + 1) A ents.length c u] w (LayE B C w cb t p root n f key ed ov taken old d ents es bs) := by
  have EOK := hnd.ok hok
  have hsz : ∀ e ∈ ents, sizeE e ≤ 194 := fun e he => (EOK e he).size
  have fewE : ents.length ≤ 1000 := by
    have := few_ents EOK
    omega
  have PS := Lib.hid (pieces_ok (m := 194) hsz (Nat.le_refl _) (by omega))
  have PT : Hid (0 < d → ∀ p ∈ pieces ents, 2 ≤ p.length) := fun hd0 => (pieces_ok (m := 138) (fun e he => (EOK e he).size_kid hd0) (by omega) (by omega)).two (fun e he => (EOK e he).size_kid hd0) (h2 hd0)
  have PE : Hid (∀ p ∈ pieces ents, ∀ e ∈ p, EntOk d e) := fun p hp e he => EOK e (by rw [← PS.out.all]; exact List.mem_flatMap.2 ⟨p, hp, he⟩)
  have LC : Hid (ents.length ≤ c) := by
    obtain ⟨A', c', e, h1, _⟩ := ho.any
    injection e with _ _ e3
    rw [e3]
    exact h1
  have CU := Lib.hid (fun W (hE : EAt W A ents) => cut_any W A c ents hE LC.out 194 (Nat.le_refl _) hsz fewE (by omega))
  have L0 := Lib.hid (Laying.start (n := n) hnd PS.out.all)
  have H := Lib.hid h
  have OE := Lib.hid ho
  have EA : Hid (∀ W, OwnEn W base (.slice A ents.length c) ents → EAt W A ents) := fun W hW => by
    obtain ⟨A', c', e, _, h1⟩ := hW.any
    injection e with e1 _ _
    subst e1
    exact h1
  have RM := Lib.hid room
  have FW := Lib.hid few
  have N4 := Lib.hid hn4
  generalize hps : pieces ents = ps at *
  have HPS := Lib.hid hps
  obtain ⟨D, hD⟩ : ∃ D : Int, D = ((d + 1 : Nat) : Int) := ⟨_, rfl⟩
  have HDD := Lib.hid hD
  unfold noV
  rw [← hD]
  obtain ⟨nb, hnb⟩ : ∃ nb, nb = w.heap.size := ⟨_, rfl⟩
  obtain ⟨w1, hw1⟩ : ∃ w1, w1 = w.alloc (.cells #[.int .i64 D, .slice A ents.length c, .string (strB u)] 79) := ⟨_, rfl⟩
  have U1 : Hid (Below w.heap.size w w1) := by rw [hw1]; exact (Below.refl _ _).alloc (Nat.le_refl _) _
  have ND1 : Hid (Held w1 nb 79 #[.int .i64 D, .slice A ents.length c, .string (strB u)]) := by rw [hw1]; exact Held.new _ _ _ hnb
  have H1 := Lib.hid (h.under U1.out)
  have OE1 := Lib.hid (ho.below_ U1.out)
  have HW1 := Lib.hid hw1
  have HNB := Lib.hid hnb
  have n1 := ND1.out.cell 1
  have nl := ND1.out.lt
  clear h hnd hok hfit h2 hn4 room ho EOK hsz few hps hD hw1 hnb
  go_enter Tryd.func62, Tryd.ntmps62
  go_upto_region 2 with fail
  rw [← HW1.out, ← HNB.out]
  go_wp2_with fail
  refine (CU.out _ (EA.out _ OE1.out)).mono ?_
  rintro x w2 ⟨v2, xs, rfl, ho2, hl2, hp2, hb2⟩
  rw [HPS.out] at hl2 hp2
  obtain ⟨A2, c2, rfl, _, hc2⟩ := ho2.any
  have O2 := Lib.hid ho2
  have L2 := Lib.hid hl2
  have P2 := Lib.hid hp2
  have B2 := Lib.hid hb2
  have H2 := Lib.hid (H1.out.under hb2)
  have OE2 := Lib.hid (OE1.out.below_ hb2)
  have ND2 := Lib.hid (Held.below ND1.out hb2 ND1.out.lt)
  have BW : Hid (Below w.heap.size w w2) := U1.out.trans (hb2.mono U1.out.size)
  clear ho2 hp2 hb2 hc2 CU n1 nl
  rw [hl2]
  clear hl2
  go_wp2_with fail
  go_loopw [5, 13] (fun v5 vi wr => ∃ j : Nat, j ≤ ps.length ∧ vi = .int .i64 j ∧ (∃ A m c, v5 = .slice A m c) ∧ Hid (LayI B C w2 wr cb t p root n f key ed ov taken old d ps es bs j v5)) (fun _ vi _ => ps.length - (intOf vi).toNat)
  case atStart => exact ⟨0, Nat.zero_le _, rfl, ⟨_, _, _, rfl⟩, [], [], f, tv, L0.out, by rw [List.append_nil]; exact H2.out, OwnEn.nil _ _, KpC.refl _ _ _, rfl, fun _ => rfl⟩
  case round =>
    obtain ⟨j, hj, rfl, ⟨A5, m5, c5, rfl⟩, G⟩ := hrel
    obtain ⟨ks, news, f', tv', hLay, hCh, hO, hK, hCnt, hNil⟩ := G.out
    have NI := Lib.hid hNil
    have LY := Lib.hid hLay
    have CH := Lib.hid hCh
    have OK := Lib.hid hO
    have KP := Lib.hid hK
    have CN := Lib.hid hCnt
    have NR := Lib.hid (KP.out.held ND2.out (by decide) (fun e => absurd e (by decide)))
    have OR := Lib.hid (KP.out.en OE2.out)
    have XR : Hid (OwnV wr w1.heap.size (.slice A2 xs.length c2) xs) := KP.out.row O2.out (by decide) (by decide)
    clear hLay hCh hO hK hCnt hNil G
    have psl : ps.length ≤ 2 := PS.out.few
    by_cases hlt : j < ps.length
    · have jx : j < xs.length := by have := L2.out; omega
      have lk : (j : Int) < (ps.length : Int) := by omega
      obtain ⟨Aj, cj, ej, hcj, hEj⟩ := P2.out wr (EA.out _ OR.out) j hlt jx
      obtain ⟨g2, off2, rfl, xcell⟩ : ∃ g off, A2 = some ⟨g, off, none⟩ ∧ wr.cell? ⟨g, off + j, none⟩ = some (.slice Aj ps[j].length cj) := by
        obtain ⟨A', c', e, _, hcl⟩ := XR.out.any
        injection e with e1 _ _
        subst e1
        obtain ⟨g, off, e2, _, hcl⟩ := hcl (by omega)
        exact ⟨g, off, e2, hcl j _ (by rw [List.getElem?_eq_getElem jx, ej])⟩
      have PJ : Hid (∀ W, EAt W A ents → EAt W Aj ps[j]) := fun W hW => by
        obtain ⟨A', c', e, _, h1⟩ := P2.out W hW j hlt jx
        rw [ej] at e
        injection e with e1 _ _
        subst e1
        exact h1
      have BR : Hid (w.heap.size ≤ wr.heap.size) := Nat.le_trans BW.out.size KP.out.size
      have TA := Lib.hid (chtake_any B C wr cb t p root n f' key ed tv' ov (taken ++ news) old CH.out (Nat.le_trans hB BR.out) (Nat.le_trans hC BR.out) (room_of (by
        have h1 := CN.out
        have h2 := RM.out
        have h3 := PS.out.few
        omega)) (by
        have h1 := FW.out
        have h2 := LY.out.nl
        have h3 := PS.out.few
        rw [List.length_append]
        omega))
      have lz : Hid (xs.length = ps.length) := L2.out
      go_upto_region 5 with fail
      go_wp2_with fail
      refine TA.out.mono ?_
      rintro x w5 ⟨i, tv5, hLe, rfl, hCh5, hK5⟩
      have LE := Lib.hid hLe
      have C5 := Lib.hid hCh5
      have K5 := Lib.hid hK5
      have N5 := Lib.hid (hK5.held NR.out (by decide) (fun e => absurd e (by decide)))
      have O5 := Lib.hid (hK5.en OK.out)
      have OE5 := Lib.hid (hK5.en OR.out)
      have K25 : Hid (KpC B C w2 w5) := KP.out.trans hK5
      have iN : i < n := hLe.1
      have PP := Lib.hid (PS.out.fits ps[j] (List.getElem_mem hlt))
      have EE := Lib.hid (PE.out ps[j] (List.getElem_mem hlt))
      have LP : Hid (0 < ps[j].length) := List.length_pos_iff.2 PP.out.2
      have few5 : Hid (ps[j].length ≤ 1000) := by
        have h1 := few_ents EE.out
        have h2 := PP.out.1
        show _ ≤ _
        omega
      have PK := Lib.hid (fun W (hW : EAt W Aj ps[j]) => pack_any W (d + 1) (by omega) Aj cj ps[j] hW (fun e he => (EE.out e he).small) PP.out.1 (by have := few5.out; omega))
      rw [← HDD.out] at PK
      have WR := Lib.hid (fun W g (m : MemAt B W p n (put f' i (some zeroKB))) (ht : Tld W g (encN (d + 1) ps[j])) => write_yes B W p n _ m i (List.replicate 512 0) (by unfold put; rw [if_pos rfl]; rfl) (some ⟨g, 0, none⟩) 512 512 (pad (encN (d + 1) ps[j])) (by
        have := ht.bts (n := 512) (Nat.le_refl _)
        rwa [List.take_of_length_le (by rw [pad_length ht.fits]; exact Nat.le_refl _)] at this) (Nat.le_refl _))
      have PN := Lib.hid (fun W => packNumber_any W (i + 1) (by have := N4.out; omega))
      have HDk := Lib.hid heedT_ok
      obtain ⟨bn, hbn⟩ : ∃ bn : Nat, bn = i + 1 := ⟨_, rfl⟩
      have HBN := Lib.hid hbn
      have cbn : (i : Int) + 1 = (bn : Int) := by omega
      rw [cbn] at WR
      rw [← hbn] at PN ⊢
      have c0 := C5.out.blk.cell 0
      have t0 := C5.out.tree.cell 0
      have n0 := N5.out.cell 0
      unfold stoB at t0
      clear hLe hCh5 hK5 TA xcell hbn cbn
      obtain ⟨pl, hpl⟩ : ∃ pl, pl = ps[j].length := ⟨_, rfl⟩
      rw [← hpl] at PK ⊢
      have HPL := Lib.hid hpl
      clear hpl
      go_upto_region 6 with fail
      refine wp_region_noPanic ?_
      refine wp_region_held_drew (S := fun w' => w'.cell? ⟨cb, 0, none⟩ = some (.pointer (some ⟨t, 0, none⟩)) ∧ w'.cell? ⟨t, 0, none⟩ = some (.iface 24 (.pointer (some ⟨p, 0, none⟩))) ∧ w'.cell? ⟨nb, 0, none⟩ = some (.int .i64 D)) (by kernel_rfl) ⟨c0, t0, n0⟩ (fun hHeld => ?_)
      refine take_ (i := 0) (v := ?_) 19 rfl rfl (by kernel_rfl) (by kernel_rfl) (by kernel_rfl) (fun _ _ _ h => h) (Or.inl ⟨by rfl, ?_⟩) (by assumption) ?_
      rotate_left
      · (intro wS hSw; (try dsimp only at hSw); go_simp; try with_reducible rfl)
      simp only [Act.put, List.setIfInBounds_toArray]
      refine take_ (i := 1) (v := ?_) 20 rfl rfl (by kernel_rfl) (by kernel_rfl) (by kernel_rfl) (fun _ _ _ h => h) (Or.inl ⟨by rfl, ?_⟩) (by assumption) ?_
      rotate_left
      · (intro wS hSw; (try dsimp only at hSw); go_simp; try with_reducible rfl)
      simp only [Act.put, List.setIfInBounds_toArray]
      refine take_ (i := 2) (v := ?_) 21 rfl rfl (by kernel_rfl) (by kernel_rfl) (by kernel_rfl) (fun _ _ _ h => h) (Or.inl ⟨by rfl, ?_⟩) (by assumption) ?_
      rotate_left
      · (intro wS hSw; (try dsimp only at hSw); go_simp; try with_reducible rfl)
      simp only [Act.put, List.setIfInBounds_toArray]
      refine take_ (i := 3) (v := ?_) 22 rfl rfl (by kernel_rfl) (by kernel_rfl) (by kernel_rfl) (fun _ _ _ h => h) (Or.inl ⟨by rfl, ?_⟩) (by assumption) ?_
      rotate_left
      · (intro wS hSw; (try dsimp only at hSw); go_simp; try with_reducible rfl)
      simp only [Act.put, List.setIfInBounds_toArray]
      refine take_ (i := 4) (v := ?_) 23 rfl rfl (by kernel_rfl) (by kernel_rfl) (by kernel_rfl) (fun _ _ _ h => h) (Or.inl ⟨by rfl, ?_⟩) (by assumption) ?_
      rotate_left
      · (intro wS hSw; (try dsimp only at hSw); go_simp; try with_reducible rfl)
      simp only [Act.put, List.setIfInBounds_toArray]
      refine take_ (i := 5) (v := ?_) 24 rfl rfl (by kernel_rfl) (by kernel_rfl) (by kernel_rfl) (fun _ _ _ h => h) (Or.inl ⟨by rfl, ?_⟩) (by assumption) ?_
      rotate_left
      · (intro wS hSw; (try dsimp only at hSw); go_simp; try with_reducible rfl)
      simp only [Act.put, List.setIfInBounds_toArray]
      refine take_ (i := 6) (v := ?_) 25 rfl rfl (by kernel_rfl) (by kernel_rfl) (by kernel_rfl) (fun _ _ _ h => h) (Or.inl ⟨by rfl, ?_⟩) (by assumption) ?_
      rotate_left
      · (intro wS hSw; (try dsimp only at hSw); go_simp; try with_reducible rfl)
      simp only [Act.put, List.setIfInBounds_toArray]
      refine take_ (i := 7) (v := ?_) 26 rfl rfl (by kernel_rfl) (by kernel_rfl) (by kernel_rfl) (fun _ _ _ h => h) (Or.inl ⟨by rfl, ?_⟩) (by assumption) ?_
      rotate_left
      · (intro wS hSw; (try dsimp only at hSw); go_simp; try with_reducible rfl)
      simp only [Act.put, List.setIfInBounds_toArray]
      refine take_ (i := 8) (v := ?_) 27 rfl rfl (by kernel_rfl) (by kernel_rfl) (by kernel_rfl) (fun _ _ _ h => h) (Or.inl ⟨by rfl, ?_⟩) (by assumption) ?_
      rotate_left
      · (intro wS hSw; (try dsimp only at hSw); go_simp; try with_reducible rfl)
      simp only [Act.put, List.setIfInBounds_toArray]
      refine take_ (i := 9) (v := ?_) 28 rfl rfl (by kernel_rfl) (by kernel_rfl) (by kernel_rfl) (fun _ _ _ h => h) (Or.inl ⟨by rfl, ?_⟩) (by assumption) ?_
      rotate_left
      · (intro wS hSw; (try dsimp only at hSw); go_simp; try with_reducible rfl)
      simp only [Act.put, List.setIfInBounds_toArray]
      refine take_ (i := 10) (v := ?_) 29 rfl rfl (by kernel_rfl) (by kernel_rfl) (by kernel_rfl) (fun _ _ _ h => h) (Or.inl ⟨by rfl, ?_⟩) (by assumption) ?_
      rotate_left
      · (intro wS hSw; (try dsimp only at hSw); go_simp; try with_reducible rfl)
      simp only [Act.put, List.setIfInBounds_toArray]
      refine take_ (i := 12) (v := ?_) 31 rfl rfl (by kernel_rfl) (by kernel_rfl) (by kernel_rfl) (fun _ _ _ h => h) (Or.inl ⟨by rfl, ?_⟩) (by assumption) ?_
      rotate_left
      · (intro wS hSw; (try dsimp only at hSw); go_simp; try with_reducible rfl)
      simp only [Act.put, List.setIfInBounds_toArray]
      refine take_ (i := 13) (v := ?_) 32 rfl rfl (by kernel_rfl) (by kernel_rfl) (by kernel_rfl) (fun _ _ _ h => h) (Or.inl ⟨by rfl, ?_⟩) (by assumption) ?_
      rotate_left
      · (intro wS hSw; (try dsimp only at hSw); go_simp; try with_reducible rfl)
      simp only [Act.put, List.setIfInBounds_toArray]
      refine one_ (i := 11) _ (by kernel_rfl) rfl (fun K hK => ?_)
      go_simp
      refine (PK.out _ (PJ.out _ (EA.out _ (OE5.out.below_ (Below.refl _ _).drew)))).mono ?_
      rintro x w6 ⟨g, rfl, hg6, ht6, hb6⟩
      have B6 : Hid (Below w5.heap.size w5 w6) := (Below.refl _ _).drew.trans hb6
      have C6 := Lib.hid (C5.out.under B6.out)
      have N6 := Lib.hid (Held.below N5.out B6.out N5.out.lt)
      have W6 := Lib.hid (WR.out w6 g C6.out.mem ht6)
      clear hg6 ht6 hb6 c0 t0 n0 PK
      dsimp only
      have s6 : w6.cell? ⟨cb, 0, none⟩ = some (.pointer (some ⟨t, 0, none⟩)) ∧ w6.cell? ⟨t, 0, none⟩ = some (.iface 24 (.pointer (some ⟨p, 0, none⟩))) ∧ w6.cell? ⟨nb, 0, none⟩ = some (.int .i64 D) := ⟨C6.out.blk.cell 0, C6.out.tree.cell 0, N6.out.cell 0⟩
      refine hK.out _ _ s6 (fun hHeld => ?_)
      clear hK K
      clear s6
      refine one_ (i := 14) _ (by kernel_rfl) rfl (fun K hK => ?_)
      go_simp
      rw [meetsB_write]
      case hn => kernel_rfl
      go_simp
      refine W6.out.mono ?_
      rintro x w7 ⟨rfl, m7, k7⟩
      have C7 := Lib.hid (C6.out.kp k7 m7)
      have N7 := Lib.hid (k7.held N6.out (by decide) (by decide))
      have K57 : Hid (KpC B C w5 w7) := (KpC.under B6.out).trans (KpC.of_kp k7)
      clear m7 k7 W6 WR
      dsimp only
      have s7 : w7.cell? ⟨cb, 0, none⟩ = some (.pointer (some ⟨t, 0, none⟩)) ∧ w7.cell? ⟨t, 0, none⟩ = some (.iface 24 (.pointer (some ⟨p, 0, none⟩))) ∧ w7.cell? ⟨nb, 0, none⟩ = some (.int .i64 D) := ⟨C7.out.blk.cell 0, C7.out.tree.cell 0, N7.out.cell 0⟩
      refine hK.out _ _ s7 (fun hHeld => ?_)
      clear hK K
      refine one_ (i := 15) _ (by kernel_rfl) rfl (fun K hK => ?_)
      go_simp
      refine (HDk.out w7).mono ?_
      rintro x w8 ⟨rfl, rfl⟩
      dsimp only
      refine hK.out _ _ s7 (fun hHeld => ?_)
      clear hK K
      clear s7 HDk
      refine wpAnyH_done (by kernel_rfl) ?_ _
      refine NoPanic.normal ?_
      have K27 : Hid (KpC B C w2 w7) := K25.out.trans K57.out
      have O7 := Lib.hid (K57.out.en O5.out)
      have OE7 := Lib.hid (K57.out.en OE5.out)
      have E7 := Lib.hid (PJ.out _ (EA.out _ OE7.out))
      obtain ⟨gj, oj, rfl, hk0, _⟩ := E7.out.at_ LP.out
      rw [Nat.zero_mul, Nat.add_zero] at hk0
      obtain ⟨kx, hkx, hk1⟩ : ∃ kx, kx = (ps[j].headD ([], [])).1 ∧ w7.cell? ⟨gj, oj, none⟩ = some (.string (strB kx)) := ⟨_, rfl, by
        rw [headD_at LP.out]
        exact hk0⟩
      have HKX := Lib.hid hkx
      have lp : 0 < pl := by
        have h1 := LP.out
        have h2 := HPL.out
        omega
      clear hkx hk0
      go_upto_region 7 with fail
      refine wp_region_noPanic ?_
      refine wp_region_held_drew (S := fun w' => w'.cell? ⟨gj, oj, none⟩ = some (.string (strB kx))) (by kernel_rfl) hk1 (fun hHeld => ?_)
      refine take_ (i := 0) (v := ?_) 35 rfl rfl (by kernel_rfl) (by kernel_rfl) (by kernel_rfl) (fun _ _ _ h => h) (Or.inl ⟨by rfl, ?_⟩) (by assumption) ?_
      rotate_left
      · (intro wS hSw; (try dsimp only at hSw); go_simp; try with_reducible rfl)
      simp only [Act.put, List.setIfInBounds_toArray]
      refine take_ (i := 1) (v := ?_) 36 rfl rfl (by kernel_rfl) (by kernel_rfl) (by kernel_rfl) (fun _ _ _ h => h) (Or.inl ⟨by rfl, ?_⟩) (by assumption) ?_
      rotate_left
      · (intro wS hSw; (try dsimp only at hSw); go_simp; try with_reducible rfl)
      simp only [Act.put, List.setIfInBounds_toArray]
      refine take_ (i := 2) (v := ?_) 37 rfl rfl (by kernel_rfl) (by kernel_rfl) (by kernel_rfl) (fun _ _ _ h => h) (Or.inl ⟨by rfl, ?_⟩) (by assumption) ?_
      rotate_left
      · (intro wS hSw; (try dsimp only at hSw); go_simp; try with_reducible rfl)
      simp only [Act.put, List.setIfInBounds_toArray]
      refine take_ (i := 3) (v := ?_) 38 rfl rfl (by kernel_rfl) (by kernel_rfl) (by kernel_rfl) (fun _ _ _ h => h) (Or.inl ⟨by rfl, ?_⟩) (by assumption) ?_
      rotate_left
      · (intro wS hSw; (try dsimp only at hSw); go_simp; try with_reducible rfl)
      simp only [Act.put, List.setIfInBounds_toArray]
      refine take_ (i := 4) (v := ?_) 39 rfl rfl (by kernel_rfl) (by kernel_rfl) (by kernel_rfl) (fun _ _ _ h => h) (Or.inl ⟨by rfl, ?_⟩) (by assumption) ?_
      rotate_left
      · (intro wS hSw; (try dsimp only at hSw); go_simp; try with_reducible rfl)
      simp only [Act.put, List.setIfInBounds_toArray]
      refine take_ (i := 5) (v := ?_) 40 rfl rfl (by kernel_rfl) (by kernel_rfl) (by kernel_rfl) (fun _ _ _ h => h) (Or.inl ⟨by rfl, ?_⟩) (by assumption) ?_
      rotate_left
      · (intro wS hSw; (try dsimp only at hSw); go_simp; try with_reducible rfl)
      simp only [Act.put, List.setIfInBounds_toArray]
      refine one_ (i := 6) _ (by kernel_rfl) rfl (fun K hK => ?_)
      go_simp
      refine (PN.out _).mono ?_
      rintro x w9 ⟨rfl, hb9⟩
      have B9 : Hid (Below w7.heap.size w7 w9) := (Below.refl _ _).drew.trans hb9
      have E9 := Lib.hid (E7.out.below B9.out)
      have s9 : w9.cell? ⟨gj, oj, none⟩ = some (.string (strB kx)) := by
        obtain ⟨g', o', e, hc, _⟩ := E9.out.at_ LP.out
        injection e with e
        injection e with e1 e2 _
        rw [Nat.zero_mul, Nat.add_zero, ← e1, ← e2] at hc
        rw [HKX.out, headD_at LP.out]
        exact hc
      clear hb9 hk1 PN
      dsimp only
      refine hK.out _ _ s9 (fun hHeld => ?_)
      clear hK K
      refine take_ (i := 7) (v := ?_) 42 rfl rfl (by kernel_rfl) (by kernel_rfl) (by kernel_rfl) (fun _ _ _ h => h) (Or.inl ⟨by rfl, ?_⟩) (by assumption) ?_
      rotate_left
      · (intro wS hSw; (try dsimp only at hSw); go_simp; try with_reducible rfl)
      simp only [Act.put, List.setIfInBounds_toArray]
      obtain ⟨w10, hw10⟩ : ∃ w10, w10 = w9.alloc (.cells #[.string (strB kx), .string (strB (pk bn))] 77) := ⟨_, rfl⟩
      obtain ⟨r, hr⟩ : ∃ r, r = w9.heap.size := ⟨_, rfl⟩
      have U10 : Hid (Below w9.heap.size w9 w10) := by rw [hw10]; exact (Below.refl _ _).alloc (Nat.le_refl _) _
      have B10 : Hid (Below w7.heap.size w7 w10) := B9.out.trans (U10.out.mono B9.out.size)
      have V10 : Hid (EAt w10 (some ⟨r, 0, none⟩) [(kx, pk bn)]) := by rw [hw10]; exact (show OneEn (w9.alloc (.cells #[.string (strB kx), .string (strB (pk bn))] 77)) r (kx, pk bn) from Held.new _ _ _ hr).at_
      have O10 := Lib.hid (O7.out.below_ B10.out)
      have C10 := Lib.hid (C7.out.under B10.out)
      have E10 := Lib.hid (E7.out.below B10.out)
      have HW10 := Lib.hid hw10
      have HR := Lib.hid hr
      have K10 : Hid (KpC B C w2 w10) := K27.out.trans (KpC.under B10.out)
      clear hw10 hr s9
      refine one_ (i := 8) _ (by kernel_rfl) rfl (fun K hK => ?_)
      go_simp
      rw [← HW10.out, ← HR.out]
      have s10 : w10.cell? ⟨gj, oj, none⟩ = some (.string (strB kx)) := by
        obtain ⟨g', o', e, hc, _⟩ := E10.out.at_ LP.out
        injection e with e
        injection e with e1 e2 _
        rw [Nat.zero_mul, Nat.add_zero, ← e1, ← e2] at hc
        rw [HKX.out, headD_at LP.out]
        exact hc
      refine hK.out _ _ s10 (fun hHeld => ?_)
      clear hK K
      clear s10
      have SZ10 : Hid (w2.heap.size ≤ w10.heap.size) := K10.out.size
      have LK : Hid ((leads ks).length ≤ 2) := by
        show _ ≤ _
        unfold leads
        rw [List.length_map, LY.out.len]
        have := PS.out.few
        omega
      have FIN : Hid (∀ v11 w11, OwnEn w11 w2.heap.size v11 (leads ks ++ [(kx, pk bn)]) → w10.grownBy w11 (Value.ownBlock (.slice A5 m5 c5)) → LayI B C w2 w11 cb t p root n f key ed ov taken old d ps es bs (j + 1) v11 ∧ EAt w11 (some ⟨gj, oj, none⟩) ps[j]) := by
        show ∀ v11 w11, _ → _ → _
        intro v11 w11 hown hg
        have KS := KpS.of_grown O10.out hg
        have C11 := C10.out.kps KS (by decide)
        rw [pad_full (pad_length (by rw [encN_length]; have := PP.out.1; omega)), List.append_assoc] at C11
        obtain ⟨k, hk1, hk2⟩ := LY.out.step hlt PP.out (fun hd0 => PT.out hd0 _ (List.getElem_mem hlt)) iN N4.out LE.out.2.1
        refine ⟨⟨ks ++ [k], news ++ [i + 1], _, tv5, hk2, C11, ?_, K10.out.past O10.out (Nat.le_refl _) hg, ?_, fun e => by simp at e⟩, ?_⟩
        · rw [leads_append]
          have : leads [k] = [(kx, pk bn)] := by
            unfold leads
            rw [List.map_cons, List.map_nil, hk1, HKX.out, HBN.out]
          rw [this]
          exact hown
        · rw [cnt_put2 f' i n _ _ LE.out.2.1 iN, CN.out]
          omega
        · exact PJ.out _ (EA.out _ ((K10.out.past O10.out (Nat.le_refl _) hg).en OE2.out))
      refine one_ (i := 9) _ (by kernel_rfl) rfl (fun K hK => ?_)
      rw [if_pos (by kernel_rfl)]
      refine wp_append_e (.tmp 35) (.tmp 43) rfl w2.heap.size _ _ rfl O10.out (some ⟨r, 0, none⟩) 1 1 [(kx, pk bn)] rfl rfl V10.out (by have := LK.out; omega) SZ10.out ?_
      intro v11 w11 hown11 hg11
      have RES := Lib.hid (FIN.out _ _ hown11 hg11)
      obtain ⟨A11, m11, c11, rfl⟩ : ∃ A m c, v11 = .slice A m c := by
        obtain ⟨A, c, e, _⟩ := hown11.any
        exact ⟨A, _, c, e⟩
      have s11 : w11.cell? ⟨gj, oj, none⟩ = some (.string (strB kx)) := by
        obtain ⟨g', o', e, hc, _⟩ := RES.out.2.at_ LP.out
        injection e with e
        injection e with e1 e2 _
        rw [Nat.zero_mul, Nat.add_zero, ← e1, ← e2] at hc
        rw [HKX.out, headD_at LP.out]
        exact hc
      clear hown11 hg11 FIN
      go_simp
      refine hK.out _ _ s11 (fun hHeld => ?_)
      clear hK K
      clear s11
      refine take_ (i := 10) (v := ?_) 5 rfl rfl (by kernel_rfl) (by kernel_rfl) (by kernel_rfl) (fun _ _ _ h => h) (Or.inl ⟨by rfl, ?_⟩) (by assumption) ?_
      rotate_left
      · (intro wS hSw; (try dsimp only at hSw); go_simp; try with_reducible rfl)
      simp only [Act.put, List.setIfInBounds_toArray, List.set_cons_zero, List.set_cons_succ]
      refine wpAnyH_done (by kernel_rfl) ?_ _
      refine NoPanic.normal ?_
      go_wp2_with fail
      go_roundw
      case rel => exact ⟨j + 1, by omega, by go_num, ⟨_, _, _, rfl⟩, RES.out.1⟩
      case measure => simp [intOf]; omega
    · obtain rfl : j = ps.length := by omega
      have lk : ¬ ((ps.length : Nat) : Int) < (ps.length : Int) := by omega
      have KW : Hid (KpC B C w wr) := (KpC.under BW.out).trans KP.out
      have LN := Lib.hid (LY.out.done PS.out)
      have OB := Lib.hid (OK.out.base_ BW.out.size)
      have LNN := LY.out.nl
      go_wp2_with fail
      go_ret
      exact ⟨f', ks, news, _, tv', rfl, LN.out, OB.out, CH.out, KW.out, by rw [LNN]; exact CN.out, NI.out⟩
end Go.Proofs.YtnogmgnbhcmajaaDoor

namespace Go.Proofs.YtnogmgnbhcmajaaDoor
open Go.RowKit Wal

set_option maxRecDepth 100000 in
theorem wp_append_n1 {w : World} {o : Oper} {a : Act} {K : Act → World → Prop} {Q : Exit → Act → World → Prop} (s x : Operand)
    (ho : o.op = .call { callee := .builtin .append, args := #[s, x], argTypes := #[92, 92] })
    (base : Nat) (v : Value) (k : List Nat) (hs : a.eval s = v) (hown : OwnN w base v k)
    (g m c : Nat) (l : List Nat) (hx : a.eval x = .slice (some ⟨g, 0, none⟩) m c) (hl : l.length = m) (hA : ∀ j u, (l.map iV)[j]? = some u → w.cell? ⟨g, 0 + j, none⟩ = some u) (hr : k.length + m ≤ 100000) (hbase : base ≤ w.heap.size)
    (h : ∀ v' w', OwnN w' base v' (k ++ l) → w.grownBy w' v.ownBlock → (v'.ownBlock = v.ownBlock ∨ v'.ownBlock = some w.heap.size) → K (a.put o.dst v') w') : o.wp Tryd.prog a w K Q := by
  obtain ⟨i, hi, hz, hsize, hby⟩ := info_parts infoN
  obtain ⟨v', w', hrun, h2, h3, _, h5⟩ := run_append_own_at (P := Tryd.prog) w base 92 o.type 3 i (.int .i64 0) 1 8 Tryd.underlying92 hi hz hsize hby rfl (by omega) v k.length (k.map iV) hown ⟨g, 0, none⟩ m c (l.map iV) (by simp [hl])
    (fun j u hu => by rw [WideShapes.add_plain]; exact hA j u hu)
    (fun u hu => by obtain ⟨x, _, rfl⟩ := List.mem_map.1 hu; rfl) (by simp only [maxLen]; omega) (by omega) hbase
  unfold Oper.wp execOp
  simp only [ho, resolve, invoke, builtin, Sem.run_bind, Sem.run_pure, Result.andThen_ok, List.map_toArray, List.map_cons, List.map_nil, hs, hx, hrun]
  exact h v' w' (by unfold OwnN; rw [List.length_append, List.map_append, hl]; exact h2) h3 h5
theorem KpC.fresh {B C : Nat} {w w' w'' : World} (h : KpC B C w w') (k : Below w.heap.size w' w'') : KpC B C w w'' :=
  ⟨k.os.trans h.os, k.tape.trans h.tape, k.output.trans h.output, Nat.le_trans h.size k.size, fun i hi hf => (k.block i hi).trans (h.block i hi hf)⟩
def ReadE (B C : Nat) (w : World) (cb t p root n : Nat) (f : Nat → Option KB) (key : List Nat) (ed tv : Value) (taken old : List Nat) (d b : Nat) (es : List En) (bs : List Nat) (u : List Nat) (x : Ending) (w' : World) : Prop :=
  ∃ ents v bs0 ov', x = .returned (.agg #[.int .i64 ((d + 1 : Nat) : Int), v, .string (strB u)]) ∧ OwnEn w' w.heap.size v ents ∧ Ents f d ents es bs0 ∧ (b ≠ 0 → bs = b :: bs0) ∧ Chg B C w' cb t p root n f key ed tv ov' taken (old ++ if b = 0 then [] else [b]) ∧ KpC B C w w'
set_option maxRecDepth 100000 in
set_option maxHeartbeats 6400000 in
theorem chread_any (B C : Nat) (w : World) (cb t p root n : Nat) (f : Nat → Option KB) (key : List Nat) (ed tv ov : Value) (taken old : List Nat) (h : Chg B C w cb t p root n f key ed tv ov taken old) (hC : C ≤ w.heap.size) (few : old.length ≤ 80000)
    (d b : Nat) (es : List En) (bs : List Nat) (lv : Nat) (fk u : List Nat) (hs : SpotOk f d b es bs lv fk u) :
    Calls Tryd.prog 58 #[.pointer (some ⟨cb, 0, none⟩), spV b lv fk u] w (ReadE B C w cb t p root n f key ed tv taken old d b es bs u) := by
  have H := Lib.hid h
  have FW : Hid (old.length ≤ 80000) := few
  have RD := Lib.hid (fun W (hT : TreeO W t p root ∧ MemAt B W p n f) => read_at B W t p root n f hT.1 hT.2 hs)
  obtain ⟨D, hD⟩ : ∃ D : Int, D = ((d + 1 : Nat) : Int) := ⟨_, rfl⟩
  have HDD := Lib.hid hD
  obtain ⟨bi, hbi⟩ : ∃ bi : Int, bi = (b : Int) := ⟨_, rfl⟩
  obtain ⟨q, hq⟩ : ∃ q, q = w.heap.size := ⟨_, rfl⟩
  obtain ⟨W, hW⟩ : ∃ W, W = (w.alloc (.cells #[.int .i64 bi, .int .i64 (lv : Int), .string (strB fk), .string (strB u)] 89)).alloc (.cells #[.int .i64 0, .slice none 0 0, .string ⟨#[]⟩] 79) := ⟨_, rfl⟩
  have HS : Hid (Held W q 89 #[.int .i64 bi, .int .i64 (lv : Int), .string (strB fk), .string (strB u)]) := by rw [hW]; exact (Held.new w _ _ hq).alloc _
  have HN : Hid (Held W (q + 1) 79 #[.int .i64 0, .slice none 0 0, .string ⟨#[]⟩]) := by rw [hW]; exact Held.new _ _ _ (by rw [hq]; simp)
  have BW : Hid (Below w.heap.size w W) := by rw [hW]; exact ((Below.refl _ _).alloc (Nat.le_refl _) _).alloc (by simp) _
  have CH := Lib.hid (h.under BW.out)
  have KW : Hid (KpC B C w W) := KpC.under BW.out
  have HW := Lib.hid hW
  have HQ := Lib.hid hq
  have s0 := HS.out.cell 0
  have QW : Hid (w.heap.size ≤ q) := by rw [hq]; exact Nat.le_refl _
  have CW : Hid (C ≤ W.heap.size) := Nat.le_trans hC BW.out.size
  unfold spV at RD ⊢
  rw [← hD, ← hbi] at RD
  rw [← hbi]
  have HBI := Lib.hid hbi
  clear h hs few hD hq hW
  by_cases hb : b = 0
  · obtain rfl : bi = 0 := by omega
    clear hbi
    go_enter Tryd.func58, Tryd.ntmps58
    go_upto_region 1 with fail
    rw [← HW.out, ← HQ.out]
    go_upto_region 3 with fail
    have DR : Hid (Below W.heap.size W W.drew) := (Below.refl _ _).drew
    refine wp_region_noPanic ?_
    refine wp_region_held_drew (S := fun w' => w'.cell? ⟨cb, 0, none⟩ = some (.pointer (some ⟨t, 0, none⟩)) ∧ w'.cell? ⟨q, 0, none⟩ = some (.int .i64 0) ∧ w'.cell? ⟨q, 1, none⟩ = some (.int .i64 (lv : Int)) ∧ w'.cell? ⟨q, 2, none⟩ = some (.string (strB fk)) ∧ w'.cell? ⟨q, 3, none⟩ = some (.string (strB u))) (by kernel_rfl) ⟨CH.out.blk.cell 0, HS.out.cell 0, HS.out.cell 1, HS.out.cell 2, HS.out.cell 3⟩ (fun hHeld => ?_)
    refine take_ (i := 0) (v := ?_) 19 rfl rfl (by kernel_rfl) (by kernel_rfl) (by kernel_rfl) (fun _ _ _ h => h) (Or.inl ⟨by rfl, ?_⟩) (by assumption) ?_
    rotate_left
    · (intro wS hSw; (try dsimp only at hSw); go_simp; try with_reducible rfl)
    simp only [Act.put, List.setIfInBounds_toArray]
    refine take_ (i := 1) (v := ?_) 20 rfl rfl (by kernel_rfl) (by kernel_rfl) (by kernel_rfl) (fun _ _ _ h => h) (Or.inl ⟨by rfl, ?_⟩) (by assumption) ?_
    rotate_left
    · (intro wS hSw; (try dsimp only at hSw); go_simp; try with_reducible rfl)
    simp only [Act.put, List.setIfInBounds_toArray]
    refine take_ (i := 2) (v := ?_) 21 rfl rfl (by kernel_rfl) (by kernel_rfl) (by kernel_rfl) (fun _ _ _ h => h) (Or.inl ⟨by rfl, ?_⟩) (by assumption) ?_
    rotate_left
    · (intro wS hSw; (try dsimp only at hSw); go_simp; try with_reducible rfl)
    simp only [Act.put, List.setIfInBounds_toArray]
    refine take_ (i := 3) (v := ?_) 22 rfl rfl (by kernel_rfl) (by kernel_rfl) (by kernel_rfl) (fun _ _ _ h => h) (Or.inl ⟨by rfl, ?_⟩) (by assumption) ?_
    rotate_left
    · (intro wS hSw; (try dsimp only at hSw); go_simp; try with_reducible rfl)
    simp only [Act.put, List.setIfInBounds_toArray]
    refine take_ (i := 4) (v := ?_) 23 rfl rfl (by kernel_rfl) (by kernel_rfl) (by kernel_rfl) (fun _ _ _ h => h) (Or.inl ⟨by rfl, ?_⟩) (by assumption) ?_
    rotate_left
    · (intro wS hSw; (try dsimp only at hSw); go_simp; try with_reducible rfl)
    simp only [Act.put, List.setIfInBounds_toArray]
    refine one_ (i := 5) _ (by kernel_rfl) rfl (fun K hK => ?_)
    go_simp
    refine (RD.out _ ⟨CH.out.tree.below DR.out, CH.out.mem.under DR.out⟩).mono ?_
    rintro x w7 ⟨ents, v, bs0, rfl, ho7, hE, hbs, hb7⟩
    dsimp only
    have B7 : Hid (Below W.heap.size W w7) := DR.out.trans (hb7.mono DR.out.size)
    have C7 := Lib.hid (CH.out.under B7.out)
    have S7 := Lib.hid (Held.below HS.out B7.out HS.out.lt)
    have N7 := Lib.hid (Held.below HN.out B7.out HN.out.lt)
    have K7 : Hid (KpC B C w w7) := KW.out.trans (KpC.under B7.out)
    have O7 := Lib.hid (ho7.base_ (base' := w.heap.size) (Nat.le_trans KW.out.size DR.out.size))
    have RE := Lib.hid (And.intro hE hbs)
    obtain ⟨A7, m7, c7, rfl⟩ : ∃ A m c, v = .slice A m c := by
      obtain ⟨A, c, e, _⟩ := ho7.any
      exact ⟨A, _, c, e⟩
    obtain ⟨wf, hwf⟩ : ∃ wf, wf = ((w7.setCell ⟨q + 1, 0, none⟩ (.int .i64 D)).setCell ⟨q + 1, 1, none⟩ (.slice A7 m7 c7)).setCell ⟨q + 1, 2, none⟩ (.string (strB u)) := ⟨_, rfl⟩
    have FH : Hid (Held wf (q + 1) 79 #[.int .i64 D, .slice A7 m7 c7, .string (strB u)]) := by rw [hwf]; exact ((N7.out.set_ 0 _).set_ 1 _).set_ 2 _
    have KS : Hid (KpS [79] 0 w7 wf) := by rw [hwf]; exact (((KpS.refl _ _ _).set_ N7.out (by simp) (Nat.zero_le _) 0 _).set_ (N7.out.set_ 0 _) (by simp) (Nat.zero_le _) 1 _).set_ ((N7.out.set_ 0 _).set_ 1 _) (by simp) (Nat.zero_le _) 2 _
    have BF : Hid (Below w.heap.size w7 wf) := by
      rw [hwf]
      have hq' : w.heap.size ≤ q + 1 := Nat.le_succ_of_le QW.out
      exact (((Below.refl _ _).setCell (p := ⟨q + 1, 0, none⟩) hq' _).setCell (p := ⟨q + 1, 1, none⟩) hq' _).setCell (p := ⟨q + 1, 2, none⟩) hq' _
    have CF := Lib.hid (C7.out.kps KS.out (by decide))
    have SF := Lib.hid (KS.out.held S7.out (by decide))
    have FIN : Hid (ReadE B C w cb t p root n f key ed tv taken old d b es bs u (.returned (.agg #[.int .i64 D, .slice A7 m7 c7, .string (strB u)])) wf) := by
      refine ⟨ents, _, bs0, ov, by rw [HDD.out], KS.out.row O7.out (by decide), RE.out.1, RE.out.2, ?_, K7.out.fresh BF.out⟩
      rw [if_pos hb, List.append_nil]; exact CF.out
    have s7 : w7.cell? ⟨cb, 0, none⟩ = some (.pointer (some ⟨t, 0, none⟩)) ∧ w7.cell? ⟨q, 0, none⟩ = some (.int .i64 0) ∧ w7.cell? ⟨q, 1, none⟩ = some (.int .i64 (lv : Int)) ∧ w7.cell? ⟨q, 2, none⟩ = some (.string (strB fk)) ∧ w7.cell? ⟨q, 3, none⟩ = some (.string (strB u)) := ⟨C7.out.blk.cell 0, S7.out.cell 0, S7.out.cell 1, S7.out.cell 2, S7.out.cell 3⟩
    have s8 : wf.cell? ⟨cb, 0, none⟩ = some (.pointer (some ⟨t, 0, none⟩)) ∧ wf.cell? ⟨q, 0, none⟩ = some (.int .i64 0) ∧ wf.cell? ⟨q, 1, none⟩ = some (.int .i64 (lv : Int)) ∧ wf.cell? ⟨q, 2, none⟩ = some (.string (strB fk)) ∧ wf.cell? ⟨q, 3, none⟩ = some (.string (strB u)) := ⟨CF.out.blk.cell 0, SF.out.cell 0, SF.out.cell 1, SF.out.cell 2, SF.out.cell 3⟩
    have n0 := N7.out.cell 0
    have n1 := N7.out.cell 1
    have n2 := N7.out.cell 2
    have y0 := N7.out.frozen 0
    have y1 := N7.out.frozen 1
    have y2 := N7.out.frozen 2
    have HWF := Lib.hid hwf
    clear ho7 hE hbs hb7 hwf
    refine hK.out _ _ s7 (fun hHeld => ?_)
    clear hK K
    refine one_ (i := 6) _ (by kernel_rfl) rfl (fun K hK => ?_)
    go_simp
    rw [← HWF.out]
    refine hK.out _ _ s8 (fun hHeld => ?_)
    clear hK K
    clear s7 s8
    refine wpAnyH_done (by kernel_rfl) ?_ _
    refine NoPanic.normal ?_
    go_wp2_with fail
    exact bodyPost_ret (resC _ _ 4 79 _ _ Tryd.results58 rfl (load_node FH.out rfl)) rfl FIN.out
  · have nb : ¬ bi = 0 := by omega
    clear hbi
    go_enter Tryd.func58, Tryd.ntmps58
    go_upto_region 1 with fail
    rw [← HW.out, ← HQ.out]
    obtain ⟨oA, om, oc, rfl⟩ : ∃ A m c, ov = .slice A m c := by
      obtain ⟨A, c, e, _⟩ := H.out.ol.any
      exact ⟨A, _, c, e⟩
    obtain ⟨r, hr⟩ : ∃ r, r = W.heap.size := ⟨_, rfl⟩
    obtain ⟨w4, hw4⟩ : ∃ w4, w4 = (W.alloc (.cells #[.int .i64 bi] 3)).drew := ⟨_, rfl⟩
    have U4 : Hid (Below W.heap.size W w4) := by rw [hw4]; exact ((Below.refl _ _).alloc (Nat.le_refl _) _).drew
    have C4 := Lib.hid (CH.out.under U4.out)
    have I4 : Hid (∀ j u, ([b].map iV)[j]? = some u → w4.cell? ⟨r, 0 + j, none⟩ = some u) := by
      rw [hw4, HBI.out]
      obtain ⟨g, off, e, _, hc⟩ := n_one W b r hr (by simp)
      cases e
      exact hc
    have K4 : Hid (KpC B C w w4) := KW.out.trans (KpC.under U4.out)
    have S4 := Lib.hid (Held.below HS.out U4.out HS.out.lt)
    have N4 := Lib.hid (Held.below HN.out U4.out HN.out.lt)
    have SZ4 : Hid (C ≤ w4.heap.size) := Nat.le_trans CW.out U4.out.size
    have s4 := S4.out.cell 0
    have c4 := CH.out.blk.cell 4
    have c44 := C4.out.blk.cell 4
    have HW4 := Lib.hid hw4
    have HR := Lib.hid hr
    clear hw4 hr
    go_upto_region 2 with fail
    refine wp_region_noPanic ?_
    refine wp_region_held_drew (S := fun w' => w'.cell? ⟨q, 0, none⟩ = some (.int .i64 bi)) (by kernel_rfl) s0 (fun hHeld => ?_)
    refine take_ (i := 0) (v := ?_) 8 rfl rfl (by kernel_rfl) (by kernel_rfl) (by kernel_rfl) (fun _ _ _ h => h) (Or.inl ⟨by rfl, ?_⟩) (by assumption) ?_
    rotate_left
    · (intro wS hSw; (try dsimp only at hSw); go_simp; try with_reducible rfl)
    simp only [Act.put, List.setIfInBounds_toArray]
    refine take_ (i := 1) (v := ?_) 9 rfl rfl (by kernel_rfl) (by kernel_rfl) (by kernel_rfl) (fun _ _ _ h => h) (Or.inl ⟨by rfl, ?_⟩) (by assumption) ?_
    rotate_left
    · (intro wS hSw; (try dsimp only at hSw); go_simp; try with_reducible rfl)
    simp only [Act.put, List.setIfInBounds_toArray]
    refine take_ (i := 2) (v := ?_) 10 rfl rfl (by kernel_rfl) (by kernel_rfl) (by kernel_rfl) (fun _ _ _ h => h) (Or.inl ⟨by rfl, ?_⟩) (by assumption) ?_
    rotate_left
    · (intro wS hSw; (try dsimp only at hSw); go_simp; try with_reducible rfl)
    simp only [Act.put, List.setIfInBounds_toArray]
    refine take_ (i := 3) (v := ?_) 11 rfl rfl (by kernel_rfl) (by kernel_rfl) (by kernel_rfl) (fun _ _ _ h => h) (Or.inl ⟨by rfl, ?_⟩) (by assumption) ?_
    rotate_left
    · (intro wS hSw; (try dsimp only at hSw); go_simp; try with_reducible rfl)
    simp only [Act.put, List.setIfInBounds_toArray]
    refine take_ (i := 5) (v := ?_) 13 rfl rfl (by kernel_rfl) (by kernel_rfl) (by kernel_rfl) (fun _ _ _ h => h) (Or.inl ⟨by rfl, ?_⟩) (by assumption) ?_
    rotate_left
    · (intro wS hSw; (try dsimp only at hSw); go_simp; try with_reducible rfl)
    simp only [Act.put, List.setIfInBounds_toArray]
    refine take_ (i := 6) (v := ?_) 14 rfl rfl (by kernel_rfl) (by kernel_rfl) (by kernel_rfl) (fun _ _ _ h => h) (Or.inl ⟨by rfl, ?_⟩) (by assumption) ?_
    rotate_left
    · (intro wS hSw; (try dsimp only at hSw); go_simp; try with_reducible rfl)
    simp only [Act.put, List.setIfInBounds_toArray]
    refine two_ (i := 4) (j := 7) _ _ (by kernel_rfl) rfl rfl (fun K hK => ?_) (fun K hK => ?_)
    · go_simp
      refine hK.out _ _ s0 (fun hHeld => ?_)
      clear hK K
      refine one_ (i := 7) _ (by kernel_rfl) rfl (fun K hK => ?_)
      go_simp
      rw [← HW4.out, ← HR.out]
      refine hK.out _ _ s4 (fun hHeld => ?_)
      clear hK K
      refine one_ (i := 8) _ (by kernel_rfl) rfl (fun K hK => ?_)
      rw [if_pos (by kernel_rfl)]
      refine wp_append_n1 (.tmp 12) (.tmp 15) rfl C _ _ rfl C4.out.ol r 1 1 [b] rfl rfl I4.out (by have := FW.out; omega) SZ4.out ?_
      intro v5 w5 hown5 hg5 hv5
      obtain ⟨A5, m5, c5, rfl⟩ : ∃ A m c, v5 = .slice A m c := by
        obtain ⟨A, c, e, _⟩ := hown5.any
        exact ⟨A, _, c, e⟩
      have E5 := Lib.hid (C4.out.grew_ol hown5 hg5 hv5)
      have KP : Hid (KpS IS C w4 w5) := (KpS.refl IS C w4).grown C4.out.ol hg5 (by simp) (Nat.le_refl _)
      have H5 : Hid (ChangeO w5 cb t key ed tv (.slice oA om oc)) := KP.out.held C4.out.blk (by decide)
      have S5 := Lib.hid (KP.out.held S4.out (by decide))
      have N5 := Lib.hid (KP.out.held N4.out (by decide))
      obtain ⟨w6, hw6⟩ : ∃ w6, w6 = w5.setCell ⟨cb, 4, none⟩ (.slice A5 m5 c5) := ⟨_, rfl⟩
      have S6 : Hid (Held w6 q 89 #[.int .i64 bi, .int .i64 (lv : Int), .string (strB fk), .string (strB u)]) := by rw [hw6]; exact S5.out.far (p := ⟨cb, 4, none⟩) (Held.ne_ S5.out H5.out (by decide)) _
      have N6 : Hid (Held w6 (q + 1) 79 #[.int .i64 0, .slice none 0 0, .string ⟨#[]⟩]) := by rw [hw6]; exact N5.out.far (p := ⟨cb, 4, none⟩) (Held.ne_ N5.out H5.out (by decide)) _
      have K6 : Hid (KpC B C w w6) := by rw [hw6]; exact K4.out.trans E5.out.2
      have C6 := Lib.hid E5.out.1
      rw [← hw6] at C6
      have e5 := H5.out.cell 4
      have z5 := H5.out.frozen 4
      have s5 := S5.out.cell 0
      have s6 := S6.out.cell 0
      have HW6 := Lib.hid hw6
      clear hown5 hg5 hv5 hw6
      go_simp
      refine hK.out _ _ s5 (fun hHeld => ?_)
      clear hK K
      refine take_ (i := 9) (v := ?_) 17 rfl rfl (by kernel_rfl) (by kernel_rfl) (by kernel_rfl) (fun _ _ _ h => h) (Or.inl ⟨by rfl, ?_⟩) (by assumption) ?_
      rotate_left
      · (intro wS hSw; (try dsimp only at hSw); go_simp; try with_reducible rfl)
      simp only [Act.put, List.setIfInBounds_toArray]
      refine take_ (i := 10) (v := ?_) 18 rfl rfl (by kernel_rfl) (by kernel_rfl) (by kernel_rfl) (fun _ _ _ h => h) (Or.inl ⟨by rfl, ?_⟩) (by assumption) ?_
      rotate_left
      · (intro wS hSw; (try dsimp only at hSw); go_simp; try with_reducible rfl)
      simp only [Act.put, List.setIfInBounds_toArray]
      refine one_ (i := 11) _ (by kernel_rfl) rfl (fun K hK => ?_)
      go_simp
      rw [← HW6.out]
      refine hK.out _ _ s6 (fun hHeld => ?_)
      clear hK K
      refine wpAnyH_done (by kernel_rfl) ?_ _
      refine NoPanic.normal ?_
      clear s0 s4 s5 s6 c4 c44 e5 z5
      go_upto_region 3 with fail
      have DR : Hid (Below w6.heap.size w6 w6.drew) := (Below.refl _ _).drew
      refine wp_region_noPanic ?_
      refine wp_region_held_drew (S := fun w' => w'.cell? ⟨cb, 0, none⟩ = some (.pointer (some ⟨t, 0, none⟩)) ∧ w'.cell? ⟨q, 0, none⟩ = some (.int .i64 bi) ∧ w'.cell? ⟨q, 1, none⟩ = some (.int .i64 (lv : Int)) ∧ w'.cell? ⟨q, 2, none⟩ = some (.string (strB fk)) ∧ w'.cell? ⟨q, 3, none⟩ = some (.string (strB u))) (by kernel_rfl) ⟨C6.out.blk.cell 0, S6.out.cell 0, S6.out.cell 1, S6.out.cell 2, S6.out.cell 3⟩ (fun hHeld => ?_)
      refine take_ (i := 0) (v := ?_) 19 rfl rfl (by kernel_rfl) (by kernel_rfl) (by kernel_rfl) (fun _ _ _ h => h) (Or.inl ⟨by rfl, ?_⟩) (by assumption) ?_
      rotate_left
      · (intro wS hSw; (try dsimp only at hSw); go_simp; try with_reducible rfl)
      simp only [Act.put, List.setIfInBounds_toArray]
      refine take_ (i := 1) (v := ?_) 20 rfl rfl (by kernel_rfl) (by kernel_rfl) (by kernel_rfl) (fun _ _ _ h => h) (Or.inl ⟨by rfl, ?_⟩) (by assumption) ?_
      rotate_left
      · (intro wS hSw; (try dsimp only at hSw); go_simp; try with_reducible rfl)
      simp only [Act.put, List.setIfInBounds_toArray]
      refine take_ (i := 2) (v := ?_) 21 rfl rfl (by kernel_rfl) (by kernel_rfl) (by kernel_rfl) (fun _ _ _ h => h) (Or.inl ⟨by rfl, ?_⟩) (by assumption) ?_
      rotate_left
      · (intro wS hSw; (try dsimp only at hSw); go_simp; try with_reducible rfl)
      simp only [Act.put, List.setIfInBounds_toArray]
      refine take_ (i := 3) (v := ?_) 22 rfl rfl (by kernel_rfl) (by kernel_rfl) (by kernel_rfl) (fun _ _ _ h => h) (Or.inl ⟨by rfl, ?_⟩) (by assumption) ?_
      rotate_left
      · (intro wS hSw; (try dsimp only at hSw); go_simp; try with_reducible rfl)
      simp only [Act.put, List.setIfInBounds_toArray]
      refine take_ (i := 4) (v := ?_) 23 rfl rfl (by kernel_rfl) (by kernel_rfl) (by kernel_rfl) (fun _ _ _ h => h) (Or.inl ⟨by rfl, ?_⟩) (by assumption) ?_
      rotate_left
      · (intro wS hSw; (try dsimp only at hSw); go_simp; try with_reducible rfl)
      simp only [Act.put, List.setIfInBounds_toArray]
      refine one_ (i := 5) _ (by kernel_rfl) rfl (fun K hK => ?_)
      go_simp
      refine (RD.out _ ⟨C6.out.tree.below DR.out, C6.out.mem.under DR.out⟩).mono ?_
      rintro x w7 ⟨ents, v, bs0, rfl, ho7, hE, hbs, hb7⟩
      dsimp only
      have B7 : Hid (Below w6.heap.size w6 w7) := DR.out.trans (hb7.mono DR.out.size)
      have C7 := Lib.hid (C6.out.under B7.out)
      have S7 := Lib.hid (Held.below S6.out B7.out S6.out.lt)
      have N7 := Lib.hid (Held.below N6.out B7.out N6.out.lt)
      have K7 : Hid (KpC B C w w7) := K6.out.trans (KpC.under B7.out)
      have O7 := Lib.hid (ho7.base_ (base' := w.heap.size) (Nat.le_trans K6.out.size DR.out.size))
      have RE := Lib.hid (And.intro hE hbs)
      obtain ⟨A7, m7, c7, rfl⟩ : ∃ A m c, v = .slice A m c := by
        obtain ⟨A, c, e, _⟩ := ho7.any
        exact ⟨A, _, c, e⟩
      obtain ⟨wf, hwf⟩ : ∃ wf, wf = ((w7.setCell ⟨q + 1, 0, none⟩ (.int .i64 D)).setCell ⟨q + 1, 1, none⟩ (.slice A7 m7 c7)).setCell ⟨q + 1, 2, none⟩ (.string (strB u)) := ⟨_, rfl⟩
      have FH : Hid (Held wf (q + 1) 79 #[.int .i64 D, .slice A7 m7 c7, .string (strB u)]) := by rw [hwf]; exact ((N7.out.set_ 0 _).set_ 1 _).set_ 2 _
      have KS : Hid (KpS [79] 0 w7 wf) := by rw [hwf]; exact (((KpS.refl _ _ _).set_ N7.out (by simp) (Nat.zero_le _) 0 _).set_ (N7.out.set_ 0 _) (by simp) (Nat.zero_le _) 1 _).set_ ((N7.out.set_ 0 _).set_ 1 _) (by simp) (Nat.zero_le _) 2 _
      have BF : Hid (Below w.heap.size w7 wf) := by
        rw [hwf]
        have hq' : w.heap.size ≤ q + 1 := Nat.le_succ_of_le QW.out
        exact (((Below.refl _ _).setCell (p := ⟨q + 1, 0, none⟩) hq' _).setCell (p := ⟨q + 1, 1, none⟩) hq' _).setCell (p := ⟨q + 1, 2, none⟩) hq' _
      have CF := Lib.hid (C7.out.kps KS.out (by decide))
      have SF := Lib.hid (KS.out.held S7.out (by decide))
      have FIN : Hid (ReadE B C w cb t p root n f key ed tv taken old d b es bs u (.returned (.agg #[.int .i64 D, .slice A7 m7 c7, .string (strB u)])) wf) := by
        refine ⟨ents, _, bs0, .slice A5 m5 c5, by rw [HDD.out], KS.out.row O7.out (by decide), RE.out.1, RE.out.2, ?_, K7.out.fresh BF.out⟩
        rw [if_neg hb]; exact CF.out
      have s7 : w7.cell? ⟨cb, 0, none⟩ = some (.pointer (some ⟨t, 0, none⟩)) ∧ w7.cell? ⟨q, 0, none⟩ = some (.int .i64 bi) ∧ w7.cell? ⟨q, 1, none⟩ = some (.int .i64 (lv : Int)) ∧ w7.cell? ⟨q, 2, none⟩ = some (.string (strB fk)) ∧ w7.cell? ⟨q, 3, none⟩ = some (.string (strB u)) := ⟨C7.out.blk.cell 0, S7.out.cell 0, S7.out.cell 1, S7.out.cell 2, S7.out.cell 3⟩
      have s8 : wf.cell? ⟨cb, 0, none⟩ = some (.pointer (some ⟨t, 0, none⟩)) ∧ wf.cell? ⟨q, 0, none⟩ = some (.int .i64 bi) ∧ wf.cell? ⟨q, 1, none⟩ = some (.int .i64 (lv : Int)) ∧ wf.cell? ⟨q, 2, none⟩ = some (.string (strB fk)) ∧ wf.cell? ⟨q, 3, none⟩ = some (.string (strB u)) := ⟨CF.out.blk.cell 0, SF.out.cell 0, SF.out.cell 1, SF.out.cell 2, SF.out.cell 3⟩
      have n0 := N7.out.cell 0
      have n1 := N7.out.cell 1
      have n2 := N7.out.cell 2
      have y0 := N7.out.frozen 0
      have y1 := N7.out.frozen 1
      have y2 := N7.out.frozen 2
      have HWF := Lib.hid hwf
      clear ho7 hE hbs hb7 hwf
      refine hK.out _ _ s7 (fun hHeld => ?_)
      clear hK K
      refine one_ (i := 6) _ (by kernel_rfl) rfl (fun K hK => ?_)
      go_simp
      rw [← HWF.out]
      refine hK.out _ _ s8 (fun hHeld => ?_)
      clear hK K
      clear s7 s8
      refine wpAnyH_done (by kernel_rfl) ?_ _
      refine NoPanic.normal ?_
      go_wp2_with fail
      exact bodyPost_ret (resC _ _ 4 79 _ _ Tryd.results58 rfl (load_node FH.out rfl)) rfl FIN.out
    · go_simp
      rw [← HW4.out, ← HR.out]
      refine hK.out _ _ s4 (fun hHeld => ?_)
      clear hK K
      refine one_ (i := 4) _ (by kernel_rfl) rfl (fun K hK => ?_)
      go_simp
      refine hK.out _ _ s4 (fun hHeld => ?_)
      clear hK K
      refine one_ (i := 8) _ (by kernel_rfl) rfl (fun K hK => ?_)
      rw [if_pos (by kernel_rfl)]
      refine wp_append_n1 (.tmp 12) (.tmp 15) rfl C _ _ rfl C4.out.ol r 1 1 [b] rfl rfl I4.out (by have := FW.out; omega) SZ4.out ?_
      intro v5 w5 hown5 hg5 hv5
      obtain ⟨A5, m5, c5, rfl⟩ : ∃ A m c, v5 = .slice A m c := by
        obtain ⟨A, c, e, _⟩ := hown5.any
        exact ⟨A, _, c, e⟩
      have E5 := Lib.hid (C4.out.grew_ol hown5 hg5 hv5)
      have KP : Hid (KpS IS C w4 w5) := (KpS.refl IS C w4).grown C4.out.ol hg5 (by simp) (Nat.le_refl _)
      have H5 : Hid (ChangeO w5 cb t key ed tv (.slice oA om oc)) := KP.out.held C4.out.blk (by decide)
      have S5 := Lib.hid (KP.out.held S4.out (by decide))
      have N5 := Lib.hid (KP.out.held N4.out (by decide))
      obtain ⟨w6, hw6⟩ : ∃ w6, w6 = w5.setCell ⟨cb, 4, none⟩ (.slice A5 m5 c5) := ⟨_, rfl⟩
      have S6 : Hid (Held w6 q 89 #[.int .i64 bi, .int .i64 (lv : Int), .string (strB fk), .string (strB u)]) := by rw [hw6]; exact S5.out.far (p := ⟨cb, 4, none⟩) (Held.ne_ S5.out H5.out (by decide)) _
      have N6 : Hid (Held w6 (q + 1) 79 #[.int .i64 0, .slice none 0 0, .string ⟨#[]⟩]) := by rw [hw6]; exact N5.out.far (p := ⟨cb, 4, none⟩) (Held.ne_ N5.out H5.out (by decide)) _
      have K6 : Hid (KpC B C w w6) := by rw [hw6]; exact K4.out.trans E5.out.2
      have C6 := Lib.hid E5.out.1
      rw [← hw6] at C6
      have e5 := H5.out.cell 4
      have z5 := H5.out.frozen 4
      have s5 := S5.out.cell 0
      have s6 := S6.out.cell 0
      have HW6 := Lib.hid hw6
      clear hown5 hg5 hv5 hw6
      go_simp
      refine hK.out _ _ s5 (fun hHeld => ?_)
      clear hK K
      refine take_ (i := 9) (v := ?_) 17 rfl rfl (by kernel_rfl) (by kernel_rfl) (by kernel_rfl) (fun _ _ _ h => h) (Or.inl ⟨by rfl, ?_⟩) (by assumption) ?_
      rotate_left
      · (intro wS hSw; (try dsimp only at hSw); go_simp; try with_reducible rfl)
      simp only [Act.put, List.setIfInBounds_toArray]
      refine take_ (i := 10) (v := ?_) 18 rfl rfl (by kernel_rfl) (by kernel_rfl) (by kernel_rfl) (fun _ _ _ h => h) (Or.inl ⟨by rfl, ?_⟩) (by assumption) ?_
      rotate_left
      · (intro wS hSw; (try dsimp only at hSw); go_simp; try with_reducible rfl)
      simp only [Act.put, List.setIfInBounds_toArray]
      refine one_ (i := 11) _ (by kernel_rfl) rfl (fun K hK => ?_)
      go_simp
      rw [← HW6.out]
      refine hK.out _ _ s6 (fun hHeld => ?_)
      clear hK K
      refine wpAnyH_done (by kernel_rfl) ?_ _
      refine NoPanic.normal ?_
      clear s0 s4 s5 s6 c4 c44 e5 z5
      go_upto_region 3 with fail
      have DR : Hid (Below w6.heap.size w6 w6.drew) := (Below.refl _ _).drew
      refine wp_region_noPanic ?_
      refine wp_region_held_drew (S := fun w' => w'.cell? ⟨cb, 0, none⟩ = some (.pointer (some ⟨t, 0, none⟩)) ∧ w'.cell? ⟨q, 0, none⟩ = some (.int .i64 bi) ∧ w'.cell? ⟨q, 1, none⟩ = some (.int .i64 (lv : Int)) ∧ w'.cell? ⟨q, 2, none⟩ = some (.string (strB fk)) ∧ w'.cell? ⟨q, 3, none⟩ = some (.string (strB u))) (by kernel_rfl) ⟨C6.out.blk.cell 0, S6.out.cell 0, S6.out.cell 1, S6.out.cell 2, S6.out.cell 3⟩ (fun hHeld => ?_)
      refine take_ (i := 0) (v := ?_) 19 rfl rfl (by kernel_rfl) (by kernel_rfl) (by kernel_rfl) (fun _ _ _ h => h) (Or.inl ⟨by rfl, ?_⟩) (by assumption) ?_
      rotate_left
      · (intro wS hSw; (try dsimp only at hSw); go_simp; try with_reducible rfl)
      simp only [Act.put, List.setIfInBounds_toArray]
      refine take_ (i := 1) (v := ?_) 20 rfl rfl (by kernel_rfl) (by kernel_rfl) (by kernel_rfl) (fun _ _ _ h => h) (Or.inl ⟨by rfl, ?_⟩) (by assumption) ?_
      rotate_left
      · (intro wS hSw; (try dsimp only at hSw); go_simp; try with_reducible rfl)
      simp only [Act.put, List.setIfInBounds_toArray]
      refine take_ (i := 2) (v := ?_) 21 rfl rfl (by kernel_rfl) (by kernel_rfl) (by kernel_rfl) (fun _ _ _ h => h) (Or.inl ⟨by rfl, ?_⟩) (by assumption) ?_
      rotate_left
      · (intro wS hSw; (try dsimp only at hSw); go_simp; try with_reducible rfl)
      simp only [Act.put, List.setIfInBounds_toArray]
      refine take_ (i := 3) (v := ?_) 22 rfl rfl (by kernel_rfl) (by kernel_rfl) (by kernel_rfl) (fun _ _ _ h => h) (Or.inl ⟨by rfl, ?_⟩) (by assumption) ?_
      rotate_left
      · (intro wS hSw; (try dsimp only at hSw); go_simp; try with_reducible rfl)
      simp only [Act.put, List.setIfInBounds_toArray]
      refine take_ (i := 4) (v := ?_) 23 rfl rfl (by kernel_rfl) (by kernel_rfl) (by kernel_rfl) (fun _ _ _ h => h) (Or.inl ⟨by rfl, ?_⟩) (by assumption) ?_
      rotate_left
      · (intro wS hSw; (try dsimp only at hSw); go_simp; try with_reducible rfl)
      simp only [Act.put, List.setIfInBounds_toArray]
      refine one_ (i := 5) _ (by kernel_rfl) rfl (fun K hK => ?_)
      go_simp
      refine (RD.out _ ⟨C6.out.tree.below DR.out, C6.out.mem.under DR.out⟩).mono ?_
      rintro x w7 ⟨ents, v, bs0, rfl, ho7, hE, hbs, hb7⟩
      dsimp only
      have B7 : Hid (Below w6.heap.size w6 w7) := DR.out.trans (hb7.mono DR.out.size)
      have C7 := Lib.hid (C6.out.under B7.out)
      have S7 := Lib.hid (Held.below S6.out B7.out S6.out.lt)
      have N7 := Lib.hid (Held.below N6.out B7.out N6.out.lt)
      have K7 : Hid (KpC B C w w7) := K6.out.trans (KpC.under B7.out)
      have O7 := Lib.hid (ho7.base_ (base' := w.heap.size) (Nat.le_trans K6.out.size DR.out.size))
      have RE := Lib.hid (And.intro hE hbs)
      obtain ⟨A7, m7, c7, rfl⟩ : ∃ A m c, v = .slice A m c := by
        obtain ⟨A, c, e, _⟩ := ho7.any
        exact ⟨A, _, c, e⟩
      obtain ⟨wf, hwf⟩ : ∃ wf, wf = ((w7.setCell ⟨q + 1, 0, none⟩ (.int .i64 D)).setCell ⟨q + 1, 1, none⟩ (.slice A7 m7 c7)).setCell ⟨q + 1, 2, none⟩ (.string (strB u)) := ⟨_, rfl⟩
      have FH : Hid (Held wf (q + 1) 79 #[.int .i64 D, .slice A7 m7 c7, .string (strB u)]) := by rw [hwf]; exact ((N7.out.set_ 0 _).set_ 1 _).set_ 2 _
      have KS : Hid (KpS [79] 0 w7 wf) := by rw [hwf]; exact (((KpS.refl _ _ _).set_ N7.out (by simp) (Nat.zero_le _) 0 _).set_ (N7.out.set_ 0 _) (by simp) (Nat.zero_le _) 1 _).set_ ((N7.out.set_ 0 _).set_ 1 _) (by simp) (Nat.zero_le _) 2 _
      have BF : Hid (Below w.heap.size w7 wf) := by
        rw [hwf]
        have hq' : w.heap.size ≤ q + 1 := Nat.le_succ_of_le QW.out
        exact (((Below.refl _ _).setCell (p := ⟨q + 1, 0, none⟩) hq' _).setCell (p := ⟨q + 1, 1, none⟩) hq' _).setCell (p := ⟨q + 1, 2, none⟩) hq' _
      have CF := Lib.hid (C7.out.kps KS.out (by decide))
      have SF := Lib.hid (KS.out.held S7.out (by decide))
      have FIN : Hid (ReadE B C w cb t p root n f key ed tv taken old d b es bs u (.returned (.agg #[.int .i64 D, .slice A7 m7 c7, .string (strB u)])) wf) := by
        refine ⟨ents, _, bs0, .slice A5 m5 c5, by rw [HDD.out], KS.out.row O7.out (by decide), RE.out.1, RE.out.2, ?_, K7.out.fresh BF.out⟩
        rw [if_neg hb]; exact CF.out
      have s7 : w7.cell? ⟨cb, 0, none⟩ = some (.pointer (some ⟨t, 0, none⟩)) ∧ w7.cell? ⟨q, 0, none⟩ = some (.int .i64 bi) ∧ w7.cell? ⟨q, 1, none⟩ = some (.int .i64 (lv : Int)) ∧ w7.cell? ⟨q, 2, none⟩ = some (.string (strB fk)) ∧ w7.cell? ⟨q, 3, none⟩ = some (.string (strB u)) := ⟨C7.out.blk.cell 0, S7.out.cell 0, S7.out.cell 1, S7.out.cell 2, S7.out.cell 3⟩
      have s8 : wf.cell? ⟨cb, 0, none⟩ = some (.pointer (some ⟨t, 0, none⟩)) ∧ wf.cell? ⟨q, 0, none⟩ = some (.int .i64 bi) ∧ wf.cell? ⟨q, 1, none⟩ = some (.int .i64 (lv : Int)) ∧ wf.cell? ⟨q, 2, none⟩ = some (.string (strB fk)) ∧ wf.cell? ⟨q, 3, none⟩ = some (.string (strB u)) := ⟨CF.out.blk.cell 0, SF.out.cell 0, SF.out.cell 1, SF.out.cell 2, SF.out.cell 3⟩
      have n0 := N7.out.cell 0
      have n1 := N7.out.cell 1
      have n2 := N7.out.cell 2
      have y0 := N7.out.frozen 0
      have y1 := N7.out.frozen 1
      have y2 := N7.out.frozen 2
      have HWF := Lib.hid hwf
      clear ho7 hE hbs hb7 hwf
      refine hK.out _ _ s7 (fun hHeld => ?_)
      clear hK K
      refine one_ (i := 6) _ (by kernel_rfl) rfl (fun K hK => ?_)
      go_simp
      rw [← HWF.out]
      refine hK.out _ _ s8 (fun hHeld => ?_)
      clear hK K
      clear s7 s8
      refine wpAnyH_done (by kernel_rfl) ?_ _
      refine NoPanic.normal ?_
      go_wp2_with fail
      exact bodyPost_ret (resC _ _ 4 79 _ _ Tryd.results58 rfl (load_node FH.out rfl)) rfl FIN.out
end Go.Proofs.YtnogmgnbhcmajaaDoor
