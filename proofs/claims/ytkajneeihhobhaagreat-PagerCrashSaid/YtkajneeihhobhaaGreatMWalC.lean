/-
  wal: the contract of tell. · wal: a new log in memory; the contract of Make. · bytes.Equal, bytes.HasPrefix; wal: the contract of readTold.
-/
import Derived.Test.YtkajneeihhobhaaGreatMWalB
import Derived.Test.YtkajneeihhobhaaGreatMBase
import Derived.Deep.CutRange
import Derived.Deep.DeepCutAuto
namespace Go.Proofs.YtkajneeihhobhaaGreat
open Go.RowKit Wal

namespace Wal
/-- What a call answers and leaves: its error, the log, the disk. -/
abbrev Out := Int × LS × Dsk.DM
def wrO (s : LS) (m : Dsk.DM) (i : Nat) (l : List Nat) : Out := (m.writeErr i l.length, { s with dead := m.writeErr i l.length != 0 }, m.write i l)
def flO (s : LS) (m : Dsk.DM) : Out := (m.flushErr, { s with dead := m.flushErr != 0 }, m.flush)
def tellO (s : LS) (m : Dsk.DM) (st fi sy : Nat) : Out :=
  let a := wrO s m s.frm (told s.frm s.ring st fi sy)
  if a.1 ≠ 0 then a else
  let c := flO a.2.1 a.2.2
  if c.1 ≠ 0 then c else (0, { c.2.1 with start := st, first := fi, synced := sy }, c.2.2)
end Wal

/-- A call on a log, as its model says. -/
def LRes (w : World) (b : Nat) (G : List Nat) (d : Nat) (F : List Nat) (o : Out) (e : Ending) (w' : World) : Prop := e = .returned (.int .i64 o.1) ∧ LTurned w b G d F w' o.2.1 o.2.2

theorem lwrite_o (w : World) (b d : Nat) (s : LS) (G F : List Nat) (m : Dsk.DM) (i : Nat) (A : Option Addr) (n c : Nat) (l : List Nat) (h : LD w b G s d F m) (hl : Bts w A n l) (hn : n ≤ 9223372036854775807) (hA : 0 < n → ∀ x, A = some x → x.block ∉ F) (hw : m.wait.length ≤ 5800000000000) :
    Calls Tryz.prog 76 #[.pointer (some ⟨b, 0, none⟩), .int .i64 (i : Int), .slice A n c] w (LRes w b G d F (wrO s m i l)) := by
  have e := hl.1
  refine (lwrite_any w b d s G F m i A n c l h hl hn hA hw).mono ?_
  rintro e w' ⟨rfl, ht⟩
  subst n
  exact ⟨rfl, ht⟩
theorem lflush_o (w : World) (b d : Nat) (s : LS) (G F : List Nat) (m : Dsk.DM) (h : LD w b G s d F m) (hw : m.wait.length ≤ 5800000000000) :
    Calls Tryz.prog 70 #[.pointer (some ⟨b, 0, none⟩)] w (LRes w b G d F (flO s m)) :=
  (lflush_any w b d s G F m h hw).mono fun _ _ ⟨h1, h2⟩ => ⟨h1, h2⟩
theorem write_wait (m : Dsk.DM) (i : Int) (l : List Nat) : (m.write i l).wait.length ≤ m.wait.length + 1 := by
  unfold Dsk.DM.write
  split
  · omega
  · split
    · omega
    · split
      · show m.wait.length ≤ _; omega
      · simp

section
variable {w w' : World} {b d : Nat} {s : LS} {G F : List Nat} {m : Dsk.DM}
theorem LTurned.open_ (h : LTurned w b G d F w' s m) : ∃ G' F', LD w' b G' s d F' m ∧ Only (G ++ F) w w' ∧ Grown w G G' ∧ Grown w F F' := h
theorem LD.far_new (h : LD w b G s d F m) {q : Nat} (hq : w.heap.size ≤ q) : q ∉ G ++ F := fun hm => by
  rcases List.mem_append.1 hm with hm | hm
  · have := h.glt q hm; omega
  · have := h.flt q hm; omega
/-- The three words that the log's own sector tells are stored. -/
theorem LD.telling (h : LD w b G s d F m) (st fi sy : Nat) : LTurned w b G d F (((w.setCell ⟨b, 3, none⟩ (.int .i64 (st : Int))).setCell ⟨b, 4, none⟩ (.int .i64 (fi : Int))).setCell ⟨b, 5, none⟩ (.int .i64 (sy : Int))) { s with start := st, first := fi, synced := sy } m := by
  have hb := h.mem
  have hbF := h.apart b hb
  have ho : Only [b] w (((w.setCell ⟨b, 3, none⟩ (.int .i64 (st : Int))).setCell ⟨b, 4, none⟩ (.int .i64 (fi : Int))).setCell ⟨b, 5, none⟩ (.int .i64 (sy : Int))) := (((Only.refl _ w).setCell (.inl (by simp)) _).setCell (.inl (by simp)) _).setCell (.inl (by simp)) _
  have hy1 : ∀ y ∈ F, y ∉ [b] := fun y hy e => by
    obtain rfl : y = b := by simpa using e
    exact hbF hy
  have hy2 : ∀ y ∈ [b], y ∈ G ++ F ∨ w.heap.size ≤ y := fun y hy => by
    obtain rfl : y = b := by simpa using hy
    exact .inl (List.mem_append.2 (.inl hb))
  refine ⟨G, F, ⟨?_, h.disk.only ho hy1, h.apart⟩, ho.mono hy2, Grown.refl _ _, Grown.refl _ _⟩
  obtain ⟨vn, hl, rfl⟩ := h.log
  refine ⟨vn, ?_, rfl⟩
  have ne : ∀ i j : Nat, i ≠ j → (⟨b, i, none⟩ : Addr) ≠ ⟨b, j, none⟩ := fun i j hij e => hij (congrArg Addr.off e)
  have hc : ∀ i, i ≠ 3 → i ≠ 4 → i ≠ 5 → (((w.setCell ⟨b, 3, none⟩ (.int .i64 (st : Int))).setCell ⟨b, 4, none⟩ (.int .i64 (fi : Int))).setCell ⟨b, 5, none⟩ (.int .i64 (sy : Int))).cell? ⟨b, i, none⟩ = w.cell? ⟨b, i, none⟩ := fun i h3 h4 h5 => by
    rw [World.cell?_setCell_other _ _ _ _ (ne _ _ (Ne.symm h5)), World.cell?_setCell_other _ _ _ _ (ne _ _ (Ne.symm h4)), World.cell?_setCell_other _ _ _ _ (ne _ _ (Ne.symm h3))]
  refine ⟨(hc 0 (by omega) (by omega) (by omega)).trans hl.c0, (hc 1 (by omega) (by omega) (by omega)).trans hl.c1, (hc 2 (by omega) (by omega) (by omega)).trans hl.c2, ?_, ?_, ?_, (hc 6 (by omega) (by omega) (by omega)).trans hl.c6, (hc 7 (by omega) (by omega) (by omega)).trans hl.c7,
    hl.tab.far ho.size (fun i hi => hc i (by omega) (by omega) (by omega)) (fun i => by rw [World.frozen?_setCell, World.frozen?_setCell, World.frozen?_setCell]), hl.row.only ho (fun g hg => by simpa using hl.far g hg), hl.far⟩
  · rw [World.cell?_setCell_other _ _ _ _ (ne _ _ (by omega)), World.cell?_setCell_other _ _ _ _ (ne _ _ (by omega))]
    exact World.cell?_setCell_same _ _ _ hl.c3
  · rw [World.cell?_setCell_other _ _ _ _ (ne _ _ (by omega))]
    exact World.cell?_setCell_same _ _ _ ((World.cell?_setCell_other _ _ _ _ (ne _ _ (by omega))).trans hl.c4)
  · exact World.cell?_setCell_same _ _ _ ((World.cell?_setCell_other _ _ _ _ (ne _ _ (by omega))).trans ((World.cell?_setCell_other _ _ _ _ (ne _ _ (by omega))).trans hl.c5))
end

set_option maxRecDepth 100000 in
set_option maxHeartbeats 800000 in
theorem tell_any (w : World) (b d : Nat) (s : LS) (G F : List Nat) (m : Dsk.DM) (st fi sy : Nat) (h : LD w b G s d F m) (hf : s.frm ≤ 4096) (hr : s.ring ≤ 4096) (h1 : st ≤ 4611686018427387904) (h2 : fi ≤ 4611686018427387904) (h3 : sy ≤ 4611686018427387904)
    (hw : m.wait.length ≤ 5700000000000) :
    Calls Tryz.prog 61 #[.pointer (some ⟨b, 0, none⟩), .agg #[.int .i64 (st : Int), .int .i64 (fi : Int), .int .i64 (sy : Int)]] w (LRes w b G d F (tellO s m st fi sy)) := by
  have H := Lib.hid h
  obtain ⟨vn, hl, hG⟩ := h.log
  have blt := hl.lt
  have c1 := hl.c1
  have HP := Lib.hid (fun (u : World) (hu : LD u b G s d F m) => packTold_any u b d s G F m st fi sy hu hf hr h1 h2 h3)
  have WW := Lib.hid hw
  clear h hl hf hr h1 h2 h3 hw
  go_enter Tryz.func61, Tryz.ntmps61
  go_wp2_with fail
  obtain ⟨wb, hwb⟩ : ∃ wb, wb = w.alloc (.cells #[.int .i64 (st : Int), .int .i64 (fi : Int), .int .i64 (sy : Int)] 113) := ⟨_, rfl⟩
  have c1b : wb.cell? ⟨b, 1, none⟩ = some (.int .i64 (s.frm : Int)) := by rw [hwb]; exact (World.cell?_alloc_past _ _ _ blt).trans c1
  have HH := Held.new w 113 #[.int .i64 (st : Int), .int .i64 (fi : Int), .int .i64 (sy : Int)] rfl
  rw [← hwb] at HH
  obtain ⟨q, hq⟩ : ∃ q, q = w.heap.size := ⟨_, rfl⟩
  have EQ := Lib.hid hq
  rw [← hq] at HH
  have q0 := HH.cell 0
  have q1 := HH.cell 1
  have q2 := HH.cell 2
  have HQ := Lib.hid HH
  have BB : Hid (Below w.heap.size w wb) := by rw [hwb]; exact (Below.refl _ _).alloc (Nat.le_refl _) _
  have LB := Lib.hid (H.out.under BB.out)
  rw [← hwb, ← hq]
  clear hwb hq HH c1
  refine wp_region_noPanic ?_
  refine wp_region_held_drew (S := fun w' => w'.cell? ⟨b, 1, none⟩ = some (.int .i64 (s.frm : Int)) ∧ w'.cell? ⟨q, 0, none⟩ = some (.int .i64 (st : Int)) ∧ w'.cell? ⟨q, 1, none⟩ = some (.int .i64 (fi : Int)) ∧ w'.cell? ⟨q, 2, none⟩ = some (.int .i64 (sy : Int))) (by kernel_rfl) ⟨c1b, q0, q1, q2⟩ (fun hHeld => ?_)
  refine take_ (i := 0) (v := ?_) 7 rfl rfl (by kernel_rfl) (by kernel_rfl) (by kernel_rfl) (fun _ _ _ h => h) (Or.inl ⟨by rfl, ?_⟩) (by assumption) ?_
  rotate_left
  · (intro wS hSw; (try dsimp only at hSw); go_simp; try with_reducible rfl)
  simp only [Act.put, List.setIfInBounds_toArray, List.set_cons_zero, List.set_cons_succ]
  refine take_ (i := 1) (v := ?_) 8 rfl rfl (by kernel_rfl) (by kernel_rfl) (by kernel_rfl) (fun _ _ _ h => h) (Or.inl ⟨by rfl, ?_⟩) (by assumption) ?_
  rotate_left
  · (intro wS hSw; (try dsimp only at hSw); go_simp; try with_reducible rfl)
  simp only [Act.put, List.setIfInBounds_toArray, List.set_cons_zero, List.set_cons_succ]
  refine take_ (i := 2) (v := ?_) 9 rfl rfl (by kernel_rfl) (by kernel_rfl) (by kernel_rfl) (fun _ _ _ h => h) (Or.inl ⟨by rfl, ?_⟩) (by assumption) ?_
  rotate_left
  · (intro wS hSw; (try dsimp only at hSw); go_simp; try with_reducible rfl)
  simp only [Act.put, List.setIfInBounds_toArray, List.set_cons_zero, List.set_cons_succ]
  refine take_ (i := 3) (v := ?_) 10 rfl rfl (by kernel_rfl) (by kernel_rfl) (by kernel_rfl) (fun _ _ _ h => h) (Or.inl ⟨by rfl, ?_⟩) (by assumption) ?_
  rotate_left
  · (intro wS hSw; (try dsimp only at hSw); go_simp; try with_reducible rfl)
  simp only [Act.put, List.setIfInBounds_toArray, List.set_cons_zero, List.set_cons_succ]
  refine take_ (i := 4) (v := ?_) 11 rfl rfl (by kernel_rfl) (by kernel_rfl) (by kernel_rfl) (fun _ _ _ h => h) (Or.inl ⟨by rfl, ?_⟩) (by assumption) ?_
  rotate_left
  · (intro wS hSw; (try dsimp only at hSw); go_simp; try with_reducible rfl)
  simp only [Act.put, List.setIfInBounds_toArray, List.set_cons_zero, List.set_cons_succ]
  refine take_ (i := 5) (v := ?_) 12 rfl rfl (by kernel_rfl) (by kernel_rfl) (by kernel_rfl) (fun _ _ _ h => h) (Or.inl ⟨by rfl, ?_⟩) (by assumption) ?_
  rotate_left
  · (intro wS hSw; (try dsimp only at hSw); go_simp; try with_reducible rfl)
  simp only [Act.put, List.setIfInBounds_toArray, List.set_cons_zero, List.set_cons_succ]
  refine take_ (i := 6) (v := ?_) 13 rfl rfl (by kernel_rfl) (by kernel_rfl) (by kernel_rfl) (fun _ _ _ h => h) (Or.inl ⟨by rfl, ?_⟩) (by assumption) ?_
  rotate_left
  · (intro wS hSw; (try dsimp only at hSw); go_simp; try with_reducible rfl)
  simp only [Act.put, List.setIfInBounds_toArray, List.set_cons_zero, List.set_cons_succ]
  have C1 := Lib.hid (HP.out wb.drew LB.out.drew)
  refine one_ (i := 7) _ (by kernel_rfl) rfl (fun K hK => ?_)
  go_simp
  refine C1.out.mono ?_
  rintro e w1 ⟨v1, rfl, hn1, hk1⟩
  have L1 := Lib.hid hk1.1
  have K1 := Lib.hid hk1.2
  obtain ⟨A, c, rfl, tb⟩ := hn1.1.form
  have N1 := Lib.hid hn1
  have T1 := Lib.hid tb
  have QN : Hid (q < wb.heap.size ∧ q ≠ b) := ⟨HQ.out.lt, by have := EQ.out; omega⟩
  have S1 : w1.cell? ⟨b, 1, none⟩ = some (.int .i64 (s.frm : Int)) ∧ w1.cell? ⟨q, 0, none⟩ = some (.int .i64 (st : Int)) ∧ w1.cell? ⟨q, 1, none⟩ = some (.int .i64 (fi : Int)) ∧ w1.cell? ⟨q, 2, none⟩ = some (.int .i64 (sy : Int)) := by
    obtain ⟨vn1, hl1, _⟩ := hk1.1.log
    have hQ1 : Held w1 q _ _ := HQ.out.drew.only hk1.2 (by simpa using QN.out.2)
    exact ⟨hl1.c1, hQ1.cell 0, hQ1.cell 1, hQ1.cell 2⟩
  have H1 : Hid (Held w1 q 113 #[.int .i64 (st : Int), .int .i64 (fi : Int), .int .i64 (sy : Int)]) := HQ.out.drew.only hk1.2 (by simpa using QN.out.2)
  clear hn1 hk1 tb C1 HP LB HQ q0 q1 q2 c1b
  rw [told_length] at N1 T1 ⊢
  go_wp2_with fail
  refine hK.out _ _ S1 (fun hHeld => ?_)
  clear hK K
  have C2 := Lib.hid (lwrite_o w1 b d s G F m s.frm A 56 c _ L1.out T1.out (by omega) (fun _ x hx hm => by
    subst hx
    have h1 := N1.out.2 x.block rfl
    have h2 := LD.flt (h := H.out) x.block hm
    have h3 := BB.out.size
    have h4 : wb.drew.heap.size = wb.heap.size := rfl
    omega) (by have := WW.out; omega))
  refine one_ (i := 8) _ (by kernel_rfl) rfl (fun K hK => ?_)
  go_simp
  refine C2.out.mono ?_
  rintro e w2 ⟨rfl, ht⟩
  obtain ⟨G2, F2, hL2, hO2, hNG, hNF⟩ := ht
  have QF : q ∉ G ++ F := H.out.far_new (by have := EQ.out; omega)
  have H2 := Lib.hid (H1.out.only hO2 QF)
  have L2 := Lib.hid hL2
  have OA : Only (G ++ F) w w1 := ((Only.of_below (F := G ++ F) BB.out).drew).trans K1.out (fun x hx => .inl (by
    obtain rfl : x = b := by simpa using hx
    exact List.mem_append.2 (.inl H.out.mem)))
  have O2 : Hid (Only (G ++ F) w w2) := OA.trans hO2 (fun x hx => .inl hx)
  have QF2 : Hid (q ∉ G2 ++ F2) := fun hm => by
    rcases hNG.append hNF q hm with h | h
    · exact QF h
    · have h1 := QN.out.1
      have h2 := K1.out.size
      have h3 : wb.drew.heap.size = wb.heap.size := rfl
      omega
  have NG := Lib.hid ((Grown.refl w G).trans OA.size hNG)
  have NF := Lib.hid ((Grown.refl w F).trans OA.size hNF)
  have S2 : w2.cell? ⟨b, 1, none⟩ = some (.int .i64 (s.frm : Int)) ∧ w2.cell? ⟨q, 0, none⟩ = some (.int .i64 (st : Int)) ∧ w2.cell? ⟨q, 1, none⟩ = some (.int .i64 (fi : Int)) ∧ w2.cell? ⟨q, 2, none⟩ = some (.int .i64 (sy : Int)) := by
    obtain ⟨vn2, hl2, _⟩ := hL2.log
    exact ⟨hl2.c1, H2.out.cell 0, H2.out.cell 1, H2.out.cell 2⟩
  have Q2 := Lib.hid S2.2
  have W2 : Hid ((m.write (s.frm : Int) (told s.frm s.ring st fi sy)).wait.length ≤ 5800000000000) := by
    have h1 := write_wait m (s.frm : Int) (told s.frm s.ring st fi sy)
    have h2 := WW.out
    show _ ≤ _
    omega
  clear hL2 hO2 hNG hNF C2 L1 H1 K1 N1 T1 BB OA
  go_wp2_with fail
  refine hK.out _ _ S2 (fun hHeld => ?_)
  clear hK K
  refine take_ (i := 9) (v := ?_) 5 rfl rfl (by kernel_rfl) (by kernel_rfl) (by kernel_rfl) (fun _ _ _ h => h) (Or.inl ⟨by rfl, ?_⟩) (by assumption) ?_
  rotate_left
  · (intro wS hSw; (try dsimp only at hSw); go_simp; try with_reducible rfl)
  simp only [Act.put, List.setIfInBounds_toArray, List.set_cons_zero, List.set_cons_succ]
  refine wpAnyH_done (by kernel_rfl) ?_ _
  refine NoPanic.normal ?_
  clear S1 S2 hHeld
  obtain ⟨o, ho⟩ : ∃ o, o = wrO s m s.frm (told s.frm s.ring st fi sy) := ⟨_, rfl⟩
  have EO := Lib.hid ho
  rw [← ho] at L2 ⊢
  obtain ⟨z, s1, m1⟩ := o
  have e1 : tellO s m st fi sy = if z ≠ 0 then (z, s1, m1) else if (flO s1 m1).1 ≠ 0 then flO s1 m1 else (0, { (flO s1 m1).2.1 with start := st, first := fi, synced := sy }, (flO s1 m1).2.2) := by
    unfold tellO
    rw [← ho]
  have hm1 : m1 = m.write (s.frm : Int) (told s.frm s.ring st fi sy) := congrArg (fun o : Out => o.2.2) ho
  rw [← hm1] at W2
  clear ho hm1 EO
  dsimp only at L2 ⊢
  by_cases hz : z = 0
  · subst hz
    rw [if_neg (by simp)] at e1
    have E1 := Lib.hid e1
    clear e1
    go_wp2_with fail
    refine (lflush_o w2 b d s1 G2 F2 m1 L2.out W2.out).mono ?_
    rintro e w3 ⟨rfl, ht⟩
    obtain ⟨G3, F3, hL3, hO3, hNG, hNF⟩ := ht
    have H3 := Lib.hid (H2.out.only hO3 QF2.out)
    have O3 := Lib.hid (O2.out.trans hO3 (NG.out.append NF.out))
    have NG3 := Lib.hid (NG.out.trans O2.out.size hNG)
    have NF3 := Lib.hid (NF.out.trans O2.out.size hNF)
    have L3 := Lib.hid hL3
    clear hL3 hO3 hNG hNF L2 O2 NG NF H2 Q2
    obtain ⟨o, ho⟩ : ∃ o, o = flO s1 m1 := ⟨_, rfl⟩
    rw [← ho] at L3 E1 ⊢
    obtain ⟨y, s2, m2⟩ := o
    clear ho
    dsimp only at L3 E1 ⊢
    by_cases hy : y = 0
    · subst hy
      have T := Lib.hid (L3.out.telling st fi sy)
      have r0 := H3.out.cell 0
      have r1 := H3.out.cell 1
      have r2 := H3.out.cell 2
      obtain ⟨vn3, hl3, _⟩ := L3.out.log
      have k3 := hl3.c3
      have k4 := hl3.c4
      have k5 := hl3.c5
      have f3 := hl3.tab.fr 3
      have f4 := hl3.tab.fr 4
      have f5 := hl3.tab.fr 5
      clear hl3
      go_wp2_with fail
      go_ret
      rw [E1.out, if_neg (by simp)]
      exact ⟨rfl, LTurned.trans O3.out NG3.out NF3.out T.out⟩
    · have hy1 : (y == 0) = false := by simpa using hy
      have hy2 : (y != 0) = true := by simpa using hy
      have E2 : Hid (tellO s m st fi sy = (y, s2, m2)) := by show _ = _; rw [E1.out, if_pos hy]
      clear E1 hy
      go_wp2_with fail
      go_ret
      rw [E2.out]
      exact ⟨rfl, G3, F3, L3.out, O3.out, NG3.out, NF3.out⟩
  · rw [if_pos hz] at e1
    have hz1 : (z == 0) = false := by simpa using hz
    have hz2 : (z != 0) = true := by simpa using hz
    have E1 := Lib.hid e1
    clear e1 hz
    go_wp2_with fail
    go_ret
    rw [E1.out]
    exact ⟨rfl, G2, F2, L2.out, O2.out, NG.out, NF.out⟩
end Go.Proofs.YtkajneeihhobhaaGreat

namespace Go.Proofs.YtkajneeihhobhaaGreat
open Go.RowKit Wal

/-- A log that has just been laid. -/
def LS.fresh (frm ring : Nat) : LS := { frm := frm, ring := ring, start := 0, first := 0, synced := 0, needs := [], dead := false }

theorem zero_size : Tryz.zeroCells134.size = 268 := by decide +kernel
theorem new_log (w : World) (d frm ring : Nat) (b : Nat) (hb : b = w.heap.size) :
    LogIs (w.alloc (.cells (((Tryz.zeroCells134.setIfInBounds 0 (.pointer (some ⟨d, 0, none⟩))).setIfInBounds 1 (.int .i64 (frm : Int))).setIfInBounds 2 (.int .i64 (ring : Int))) 134)) b d (.slice none 0 0) (LS.fresh frm ring) := by
  subst hb
  have hs := zero_size
  have hc : ∀ i, 3 ≤ i → (w.alloc (.cells (((Tryz.zeroCells134.setIfInBounds 0 (.pointer (some ⟨d, 0, none⟩))).setIfInBounds 1 (.int .i64 (frm : Int))).setIfInBounds 2 (.int .i64 (ring : Int))) 134)).cell? ⟨w.heap.size, i, none⟩ = Tryz.zeroCells134[i]? := fun i hi => by
    rw [World.cell?_alloc_new, Array.getElem?_setIfInBounds_ne (by omega), Array.getElem?_setIfInBounds_ne (by omega), Array.getElem?_setIfInBounds_ne (by omega)]
  refine ⟨?_, ?_, ?_, (hc 3 (by omega)).trans (by kernel_rfl), (hc 4 (by omega)).trans (by kernel_rfl), (hc 5 (by omega)).trans (by kernel_rfl), (hc 6 (by omega)).trans (by kernel_rfl), (hc 7 (by omega)).trans (by kernel_rfl), ⟨0, .inl ⟨fun _ => 0, ?_⟩⟩, SRow.nil _ _ _, fun _ h => by cases h⟩
  · rw [World.cell?_alloc_new, Array.getElem?_setIfInBounds_ne (by omega), Array.getElem?_setIfInBounds_ne (by omega), Array.getElem?_setIfInBounds_self_of_lt (by omega)]
  · rw [World.cell?_alloc_new, Array.getElem?_setIfInBounds_ne (by omega), Array.getElem?_setIfInBounds_self_of_lt (by simp [hs])]
    rfl
  · rw [World.cell?_alloc_new, Array.getElem?_setIfInBounds_self_of_lt (by simp [hs])]
    rfl
  · exact {
      c0 := (hc 8 (by omega)).trans (by kernel_rfl)
      c1 := (hc 9 (by omega)).trans (by kernel_rfl)
      cf := fun i hi => by
        rw [hc _ (by omega)]
        exact ⟨_, Array.getElem?_eq_getElem (by rw [hs]; omega)⟩
      ce := .inl rfl
      cn := (hc 267 (by omega)).trans (by kernel_rfl)
      fr := fun o => World.frozen?_alloc_new _ _ _ _
      lt := by simp }

/-- What Make answers where there is a log; where there is none. -/
def MadeLog (w : World) (d : Nat) (F : List Nat) (o : Out) (e : Ending) (w' : World) : Prop :=
  (o.1 = 0 → ∃ b G F', e = .returned (.tuple #[.pointer (some ⟨b, 0, none⟩), .int .i64 0]) ∧ LD w' b G o.2.1 d F' o.2.2 ∧ Only F w w' ∧ (∀ x ∈ G, w.heap.size ≤ x) ∧ ∀ x ∈ F', x ∈ F ∨ w.heap.size ≤ x) ∧
  (o.1 ≠ 0 → e = .returned (.tuple #[.pointer none, .int .i64 o.1]) ∧ Turned w d F w' o.2.2)
namespace Wal
def makeO (m : Dsk.DM) (frm n : Nat) : Out := tellO (LS.fresh frm (n - 1)) m 0 1 0
end Wal

set_option maxRecDepth 100000 in
set_option maxHeartbeats 400000 in
theorem make_any (w : World) (d : Nat) (F : List Nat) (m : Dsk.DM) (frm n : Nat) (h : DiskAt w d F m) (hc : checkErr m.dur.length frm n = 0) (hw : m.wait.length ≤ 5700000000000) :
    Calls Tryz.prog 38 #[.pointer (some ⟨d, 0, none⟩), .int .i64 (frm : Int), .int .i64 (n : Int)] w (MadeLog w d F (makeO m frm n)) := by
  have hmost := h.good.most
  have hb : 2 ≤ n ∧ frm + n ≤ m.dur.length := by
    unfold checkErr at hc
    by_cases hq : (frm : Int) < 0 ∨ (n : Int) < 2 ∨ (m.dur.length : Int) - frm < n
    · rw [if_pos hq] at hc; cases hc
    · omega
  have C := Lib.hid (check_any w d F m frm n (by omega) h)
  rw [hc] at C
  have H := Lib.hid h
  have WW := Lib.hid hw
  have HB := Lib.hid hb
  have hn1 : 1 ≤ n := by omega
  clear h hc hw hb
  go_enter Tryz.func38, Tryz.ntmps38
  go_wp2_with fail
  refine C.out.mono ?_
  rintro e w' ⟨rfl, rfl⟩
  clear C
  have en : wrap64 ((n : Int) - 1) = ((n - 1 : Nat) : Int) := by have := HB.out; unfold wrap64; omega
  go_wp2_with fail
  rw [en]
  obtain ⟨wb, hwb⟩ : ∃ wb, wb = (w.alloc (.cells (((Tryz.zeroCells134.setIfInBounds 0 (.pointer (some ⟨d, 0, none⟩))).setIfInBounds 1 (.int .i64 (frm : Int))).setIfInBounds 2 (.int .i64 ((n - 1 : Nat) : Int))) 134)) := ⟨_, rfl⟩
  have BB : Hid (Below w.heap.size w wb) := by rw [hwb]; exact (Below.refl _ _).alloc (Nat.le_refl _) _
  have LB : Hid (LD wb w.heap.size [w.heap.size] (LS.fresh frm (n - 1)) d F m) := by
    refine ⟨⟨.slice none 0 0, ?_, rfl⟩, H.out.below BB.out, fun x hx hf => ?_⟩
    · rw [hwb]; exact new_log w d frm (n - 1) _ rfl
    · obtain rfl : x = w.heap.size := by simpa using hx
      have := H.out.lt _ hf
      omega
  rw [← hwb]
  clear hwb
  refine (tell_any wb w.heap.size d _ [w.heap.size] F m 0 1 0 LB.out (by have := HB.out; show frm ≤ _; omega) (by have := HB.out; show n - 1 ≤ _; omega) (by omega) (by omega) (by omega) WW.out).mono ?_
  rintro e w1 ⟨rfl, G1, F1, hL, hO, hNG, hNF⟩
  have OW : Hid (Only F w w1) := by
    refine (Only.of_below (F := F) BB.out).trans hO (fun x hx => ?_)
    rcases List.mem_append.1 hx with hx | hx
    · right
      obtain rfl : x = w.heap.size := by simpa using hx
      exact Nat.le_refl _
    · exact .inl hx
  have GW : Hid (∀ x ∈ G1, w.heap.size ≤ x) := fun x hx => by
    rcases hNG x hx with h | h
    · obtain rfl : x = w.heap.size := by simpa using h
      exact Nat.le_refl _
    · exact Nat.le_trans BB.out.size h
  have FW : Hid (∀ x ∈ F1, x ∈ F ∨ w.heap.size ≤ x) := (Grown.refl w F).trans BB.out.size hNF
  have L1 := Lib.hid hL
  clear hL hO hNG hNF LB BB
  obtain ⟨o, ho⟩ : ∃ o, o = makeO m frm n := ⟨_, rfl⟩
  have EO := Lib.hid ho
  unfold makeO at ho
  rw [← ho] at L1 ⊢
  obtain ⟨z, s1, m1⟩ := o
  clear ho
  dsimp only at L1 ⊢
  by_cases hz : z = 0
  · subst hz
    go_wp2_with fail
    go_ret2
    rw [← EO.out]
    exact ⟨fun _ => ⟨_, G1, F1, rfl, L1.out, OW.out, GW.out, FW.out⟩, fun h => absurd rfl h⟩
  · have hz1 : (z == 0) = false := by simpa using hz
    have hz2 : (z != 0) = true := by simpa using hz
    have HZ := Lib.hid hz
    clear hz
    go_wp2_with fail
    go_ret2
    rw [← EO.out]
    exact ⟨fun h => absurd h HZ.out, fun _ => ⟨rfl, F1, L1.out.disk, OW.out, FW.out⟩⟩
end Go.Proofs.YtkajneeihhobhaaGreat

namespace Go.Proofs.YtkajneeihhobhaaGreat
open Go.RowKit Wal

set_option maxRecDepth 100000 in
theorem equal_any (w : World) (A A' : Option Addr) (n c n' c' : Nat) (l l' : List Nat) (h : Bts w A n l) (h' : Bts w A' n' l') :
    Calls Tryz.prog 104 #[.slice A n c, .slice A' n' c'] w fun e w' => e = .returned (.bool (decide (l = l'))) ∧ w = w' := by
  have e1 := h.toStr byteT Tryz.underlying9 c
  have e2 := h'.toStr byteT Tryz.underlying9 c'
  have hs : ((strB l).toList == (strB l').toList) = decide (l = l') := by
    rw [Bool.eq_iff_iff, decide_eq_true_iff, beq_iff_eq]
    constructor
    · intro e
      exact strB_inj h.2.1 h'.2.1 (WideShapes.bytes_inj (by rwa [ByteArray.toList_eq, ByteArray.toList_eq] at e))
    · rintro rfl
      rfl
  have HS := Lib.hid hs
  clear h h' hs
  go_enter Tryz.func104, Tryz.ntmps104
  go_wp2
  go_ret
  exact ⟨ret_bool HS.out, rfl⟩
set_option maxRecDepth 100000 in
theorem hasPrefix_any (w : World) (A A' : Option Addr) (n c n' c' : Nat) (l l' : List Nat) (h : Bts w A n l) (h' : Bts w A' n' l') (hn : n' ≤ n) (hc : n ≤ c) :
    Calls Tryz.prog 90 #[.slice A n c, .slice A' n' c'] w fun e w' => e = .returned (.bool (decide (l.take n' = l'))) ∧ w = w' := by
  have E := Lib.hid (equal_any w A A' n' c n' c' (l.take n') l' (h.head hn) h')
  have h1 : ¬ (n : Int) < (n' : Int) := by omega
  have h2 : n' ≤ c := by omega
  clear h h'
  go_enter Tryz.func90, Tryz.ntmps90
  go_wp2_with fail
  refine E.out.mono ?_
  rintro e w' ⟨rfl, rfl⟩
  obtain ⟨bb, hbb⟩ : ∃ bb, bb = decide (l.take n' = l') := ⟨_, rfl⟩
  have HB := Lib.hid hbb
  rw [← hbb]
  clear hbb E
  go_wp2_with fail
  go_ret
  rw [← HB.out]
  exact ⟨rfl, rfl⟩

namespace Wal
/-- The fields of a log's own sector. -/
def fieldAt (L : List Nat) (i : Nat) : Nat := unnum ((L.drop (12 + i * 8)).take 8)
end Wal

set_option maxRecDepth 100000 in
theorem field_any (w : World) (q g : Nat) (L : List Nat) (i : Nat) (hq : w.cell? ⟨q, 0, none⟩ = some (.slice (some ⟨g, 0, none⟩) 512 512)) (h : Buf w g L) (hL : L.length = 512) (hi : i ≤ 4) :
    Calls Tryz.prog 88 #[.int .i64 (i : Int), .pointer (some ⟨q, 0, none⟩)] w fun e w' => e = .returned (.int .i64 (wrap64 (fieldAt L i : Nat))) ∧ w = w' := by
  have B := Lib.hid (h.bts (off := 12 + i * 8) (n := 8) (by omega))
  have R := Lib.hid (fun c => readNumber_any w (some ⟨g, 12 + i * 8, none⟩) 8 c _ B.out (by omega))
  clear h hL
  go_enter Tryz.func88, Tryz.ntmps88
  go_wp2_with fail
  refine (R.out _).mono ?_
  rintro e w' ⟨rfl, rfl⟩
  obtain ⟨x, hx⟩ : ∃ x, x = fieldAt L i := ⟨_, rfl⟩
  have EX := Lib.hid hx
  unfold fieldAt at hx
  rw [← hx]
  clear hx R
  go_wp2_with fail
  go_ret
  rw [← EX.out]
  exact ⟨rfl, rfl⟩

namespace Wal
def readToldO (s : LS) (L : List Nat) : Int × LS :=
  if L.take 56 = told s.frm s.ring (fieldAt L 2) (fieldAt L 3) (fieldAt L 4) then (0, { s with start := fieldAt L 2, first := fieldAt L 3, synced := fieldAt L 4 }) else (11, s)
end Wal
/-- What the sector's read leaves: its error; the sector in block g, behind block q. -/
def Got (w : World) (z : Int) (L : List Nat) (p ev : Value) (wc : World) : Prop :=
  ev = .int .i64 z ∧ Below w.heap.size w wc ∧ (z = 0 → ∃ q g, p = .pointer (some ⟨q, 0, none⟩) ∧ wc.cell? ⟨q, 0, none⟩ = some (.slice (some ⟨g, 0, none⟩) 512 512) ∧ Buf wc g L ∧ w.heap.size ≤ q ∧ w.heap.size ≤ g ∧ q < wc.heap.size ∧ g ≠ q)

set_option maxRecDepth 100000 in
set_option maxHeartbeats 800000 in
theorem readTold_any (w : World) (b d : Nat) (s : LS) (G F : List Nat) (m : Dsk.DM) (L : List Nat) (h : LD w b G s d F m) (hf : s.frm ≤ 4096) (hr : s.ring ≤ 4096) (he : m.readErr s.frm = 0) (hL : L = sec (m.seen.getD s.frm []))
    (hgood : L.take 56 = told s.frm s.ring (fieldAt L 2) (fieldAt L 3) (fieldAt L 4) → fieldAt L 2 < s.ring ∧ 1 ≤ fieldAt L 3 ∧ fieldAt L 3 ≤ fieldAt L 4 + 1 ∧ fieldAt L 4 ≤ 4611686018427387903) :
    Calls Tryz.prog 71 #[.pointer (some ⟨b, 0, none⟩)] w fun e w' => e = .returned (.int .i64 (readToldO s L).1) ∧ LTurned w b G d F w' (readToldO s L).2 m := by
  have H := Lib.hid h
  obtain ⟨vn, hl, hG⟩ := h.log
  have blt := hl.lt
  have c0 := hl.c0
  have c1 := hl.c1
  have HP := Lib.hid (fun (u : World) (hu : LD u b G s d F m) => packTold_gen u b d s G F m (wrap64 (fieldAt L 2 : Nat)) (wrap64 (fieldAt L 3 : Nat)) (wrap64 (fieldAt L 4 : Nat)) (fieldAt L 2) (fieldAt L 3) (fieldAt L 4) hu hf hr)
  have RD : Hid (∀ u, DiskAt u d F m → Calls Tryz.prog 74 #[.pointer (some ⟨d, 0, none⟩), .int .i64 (s.frm : Int)] u fun e w' => ∃ v, e = .returned (.tuple #[v, .int .i64 0]) ∧ Fresh512 u L v w') := fun u hu => by
    refine (read_any u d F m s.frm hu).mono ?_
    intro e w' ht
    have := ht.ok he
    rw [Int.toNat_natCast, ← hL] at this
    exact this
  have HG := Lib.hid hgood
  have HR := Lib.hid hr
  clear h hl hf hr hgood
  go_enter Tryz.func71, Tryz.ntmps71
  go_upto_region 1 with fail
  go_cut [3, 4] (fun p ev wc => Got w 0 L p ev wc)
  case first =>
    refine wp_region_noPanic ?_
    refine wp_region_held_drew (S := fun w' => w'.cell? ⟨b, 0, none⟩ = some (.pointer (some ⟨d, 0, none⟩)) ∧ w'.cell? ⟨b, 1, none⟩ = some (.int .i64 (s.frm : Int))) (by kernel_rfl) ⟨c0, c1⟩ (fun hHeld => ?_)
    refine take_ (i := 0) (v := ?_) 8 rfl rfl (by kernel_rfl) (by kernel_rfl) (by kernel_rfl) (fun _ _ _ h => h) (Or.inl ⟨by rfl, ?_⟩) (by assumption) ?_
    rotate_left
    · (intro wS hSw; (try dsimp only at hSw); go_simp; try with_reducible rfl)
    simp only [Act.put, List.setIfInBounds_toArray, List.set_cons_zero, List.set_cons_succ]
    refine take_ (i := 1) (v := ?_) 9 rfl rfl (by kernel_rfl) (by kernel_rfl) (by kernel_rfl) (fun _ _ _ h => h) (Or.inl ⟨by rfl, ?_⟩) (by assumption) ?_
    rotate_left
    · (intro wS hSw; (try dsimp only at hSw); go_simp; try with_reducible rfl)
    simp only [Act.put, List.setIfInBounds_toArray, List.set_cons_zero, List.set_cons_succ]
    refine take_ (i := 2) (v := ?_) 10 rfl rfl (by kernel_rfl) (by kernel_rfl) (by kernel_rfl) (fun _ _ _ h => h) (Or.inl ⟨by rfl, ?_⟩) (by assumption) ?_
    rotate_left
    · (intro wS hSw; (try dsimp only at hSw); go_simp; try with_reducible rfl)
    simp only [Act.put, List.setIfInBounds_toArray, List.set_cons_zero, List.set_cons_succ]
    refine take_ (i := 3) (v := ?_) 11 rfl rfl (by kernel_rfl) (by kernel_rfl) (by kernel_rfl) (fun _ _ _ h => h) (Or.inl ⟨by rfl, ?_⟩) (by assumption) ?_
    rotate_left
    · (intro wS hSw; (try dsimp only at hSw); go_simp; try with_reducible rfl)
    simp only [Act.put, List.setIfInBounds_toArray, List.set_cons_zero, List.set_cons_succ]
    refine take_ (i := 4) (v := ?_) 12 rfl rfl (by kernel_rfl) (by kernel_rfl) (by kernel_rfl) (fun _ _ _ h => h) (Or.inl ⟨by rfl, ?_⟩) (by assumption) ?_
    rotate_left
    · (intro wS hSw; (try dsimp only at hSw); go_simp; try with_reducible rfl)
    simp only [Act.put, List.setIfInBounds_toArray, List.set_cons_zero, List.set_cons_succ]
    refine take_ (i := 5) (v := ?_) 13 rfl rfl (by kernel_rfl) (by kernel_rfl) (by kernel_rfl) (fun _ _ _ h => h) (Or.inl ⟨by rfl, ?_⟩) (by assumption) ?_
    rotate_left
    · (intro wS hSw; (try dsimp only at hSw); go_simp; try with_reducible rfl)
    simp only [Act.put, List.setIfInBounds_toArray, List.set_cons_zero, List.set_cons_succ]
    refine take_ (i := 6) (v := ?_) 14 rfl rfl (by kernel_rfl) (by kernel_rfl) (by kernel_rfl) (fun _ _ _ h => h) (Or.inl ⟨by rfl, ?_⟩) (by assumption) ?_
    rotate_left
    · (intro wS hSw; (try dsimp only at hSw); go_simp; try with_reducible rfl)
    simp only [Act.put, List.setIfInBounds_toArray, List.set_cons_zero, List.set_cons_succ]
    refine take_ (i := 7) (v := ?_) 15 rfl rfl (by kernel_rfl) (by kernel_rfl) (by kernel_rfl) (fun _ _ _ h => h) (Or.inl ⟨by rfl, ?_⟩) (by assumption) ?_
    rotate_left
    · (intro wS hSw; (try dsimp only at hSw); go_simp; try with_reducible rfl)
    simp only [Act.put, List.setIfInBounds_toArray, List.set_cons_zero, List.set_cons_succ]
    refine two_ (i := 8) (j := 12) _ _ (by kernel_rfl) rfl rfl (fun K hK => ?_) (fun K hK => ?_)
    · go_simp
      refine (RD.out _ H.out.disk.drew).mono ?_
      rintro e w1 ⟨v, rfl, rfl, ho, hb⟩
      have S1 : w1.cell? ⟨b, 0, none⟩ = some (.pointer (some ⟨d, 0, none⟩)) ∧ w1.cell? ⟨b, 1, none⟩ = some (.int .i64 (s.frm : Int)) := ⟨(hb.cell (p := ⟨b, 0, none⟩) blt).trans c0, (hb.cell (p := ⟨b, 1, none⟩) blt).trans c1⟩
      have BU := Lib.hid (Buf.of_own ho (by rw [hL, sec_length]))
      have BB : Hid (Below w.heap.size w w1) := (Below.refl _ _).drew.trans hb
      have LT : b < w1.heap.size := Nat.lt_of_lt_of_le blt BB.out.size
      have GL : Hid (w.heap.size < w1.heap.size) := (ho.1.lt _ rfl).2
      clear ho hb
      go_wp2_with fail
      refine hK.out _ _ S1 (fun hHeld => ?_)
      clear hK K
      refine take_ (i := 9) (v := ?_) 7 rfl rfl (by kernel_rfl) (by kernel_rfl) (by kernel_rfl) (fun _ _ _ h => h) (Or.inl ⟨by rfl, ?_⟩) (by assumption) ?_
      rotate_left
      · (intro wS hSw; (try dsimp only at hSw); go_simp; try with_reducible rfl)
      simp only [Act.put, List.setIfInBounds_toArray, List.set_cons_zero, List.set_cons_succ]
      refine take_ (i := 10) (v := ?_) 17 rfl rfl (by kernel_rfl) (by kernel_rfl) (by kernel_rfl) (fun _ _ _ h => h) (Or.inl ⟨by rfl, ?_⟩) (by assumption) ?_
      rotate_left
      · (intro wS hSw; (try dsimp only at hSw); go_simp; try with_reducible rfl)
      simp only [Act.put, List.setIfInBounds_toArray, List.set_cons_zero, List.set_cons_succ]
      refine take_ (i := 11) (v := ?_) 18 rfl rfl (by kernel_rfl) (by kernel_rfl) (by kernel_rfl) (fun _ _ _ h => h) (Or.inl ⟨by rfl, ?_⟩) (by assumption) ?_
      rotate_left
      · (intro wS hSw; (try dsimp only at hSw); go_simp; try with_reducible rfl)
      simp only [Act.put, List.setIfInBounds_toArray, List.set_cons_zero, List.set_cons_succ]
      refine one_ (i := 12) _ (by kernel_rfl) rfl (fun K hK => ?_)
      go_simp
      refine hK.out _ _ ⟨(World.cell?_alloc_past _ _ _ LT).trans S1.1, (World.cell?_alloc_past _ _ _ LT).trans S1.2⟩ (fun hHeld => ?_)
      clear hK K
      refine one_ (i := 13) _ (by kernel_rfl) rfl (fun K hK => ?_)
      go_simp
      refine hK.out _ _ ⟨by simpa [World.cell?_alloc_past, LT] using S1.1, by simpa [World.cell?_alloc_past, LT] using S1.2⟩ (fun hHeld => ?_)
      clear hK K
      refine take_ (i := 14) (v := ?_) 4 rfl rfl (by kernel_rfl) (by kernel_rfl) (by kernel_rfl) (fun _ _ _ h => h) (Or.inl ⟨by rfl, ?_⟩) (by assumption) ?_
      rotate_left
      · (intro wS hSw; (try dsimp only at hSw); go_simp; try with_reducible rfl)
      simp only [Act.put, List.setIfInBounds_toArray, List.set_cons_zero, List.set_cons_succ]
      refine wpAnyH_done (by kernel_rfl) ?_ _
      refine NoPanic.normal ?_
      go_wp2_with fail
      go_meet
      case rel => exact ⟨rfl, BB.out.trans ((Below.refl _ _).alloc BB.out.size _), fun _ => ⟨w1.heap.size, w.heap.size, rfl, by rw [World.cell?_alloc_new]; rfl, BU.out.alloc _, BB.out.size, Nat.le_refl _, by simp, by have := GL.out; omega⟩⟩
    · go_simp
      have LT0 : b < (w.alloc (Obj.cells #[Value.slice none 0 0] 56)).drew.heap.size := by simp; omega
      have S0 : (w.alloc (Obj.cells #[Value.slice none 0 0] 56)).drew.cell? ⟨b, 0, none⟩ = some (.pointer (some ⟨d, 0, none⟩)) ∧ (w.alloc (Obj.cells #[Value.slice none 0 0] 56)).drew.cell? ⟨b, 1, none⟩ = some (.int .i64 (s.frm : Int)) := ⟨(World.cell?_alloc_past _ _ _ blt).trans c0, (World.cell?_alloc_past _ _ _ blt).trans c1⟩
      refine hK.out _ _ S0 (fun hHeld => ?_)
      clear hK K
      have HB := Held.new w 56 #[.slice none 0 0] rfl
      have HQ0 : Hid (Held (w.alloc (Obj.cells #[Value.slice none 0 0] 56)).drew w.heap.size 56 #[.slice none 0 0]) := HB
      have DK := Lib.hid ((H.out.disk.alloc (Obj.cells #[Value.slice none 0 0] 56)).drew)
      have B0 : Hid (Below w.heap.size w (w.alloc (Obj.cells #[Value.slice none 0 0] 56)).drew) := ((Below.refl _ _).alloc (Nat.le_refl _) _).drew
      have ZS : Hid ((w.alloc (Obj.cells #[Value.slice none 0 0] 56)).drew.heap.size = w.heap.size + 1) := by show _ = _; simp
      clear HB
      generalize (w.alloc (Obj.cells #[Value.slice none 0 0] 56)).drew = wz at *
      refine one_ (i := 8) _ (by kernel_rfl) rfl (fun K hK => ?_)
      go_simp
      refine (RD.out _ DK.out).mono ?_
      rintro e w1 ⟨v, rfl, rfl, ho, hb⟩
      have S1 : w1.cell? ⟨b, 0, none⟩ = some (.pointer (some ⟨d, 0, none⟩)) ∧ w1.cell? ⟨b, 1, none⟩ = some (.int .i64 (s.frm : Int)) := ⟨(hb.cell (p := ⟨b, 0, none⟩) LT0).trans S0.1, (hb.cell (p := ⟨b, 1, none⟩) LT0).trans S0.2⟩
      have BU := Lib.hid (Buf.of_own ho (by rw [hL, sec_length]))
      have BB : Hid (Below w.heap.size w w1) := B0.out.trans (hb.mono B0.out.size)
      have HQ1 := HQ0.out.below hb (by have := ZS.out; omega)
      have q0 := HQ1.cell 0
      have qf := HQ1.frozen 0
      have HQ := Lib.hid HQ1
      have bq : b ≠ w.heap.size := by omega
      clear ho hb HQ1
      go_wp2_with fail
      refine hK.out _ _ S1 (fun hHeld => ?_)
      clear hK K
      refine take_ (i := 9) (v := ?_) 7 rfl rfl (by kernel_rfl) (by kernel_rfl) (by kernel_rfl) (fun _ _ _ h => h) (Or.inl ⟨by rfl, ?_⟩) (by assumption) ?_
      rotate_left
      · (intro wS hSw; (try dsimp only at hSw); go_simp; try with_reducible rfl)
      simp only [Act.put, List.setIfInBounds_toArray, List.set_cons_zero, List.set_cons_succ]
      refine take_ (i := 10) (v := ?_) 17 rfl rfl (by kernel_rfl) (by kernel_rfl) (by kernel_rfl) (fun _ _ _ h => h) (Or.inl ⟨by rfl, ?_⟩) (by assumption) ?_
      rotate_left
      · (intro wS hSw; (try dsimp only at hSw); go_simp; try with_reducible rfl)
      simp only [Act.put, List.setIfInBounds_toArray, List.set_cons_zero, List.set_cons_succ]
      refine take_ (i := 11) (v := ?_) 18 rfl rfl (by kernel_rfl) (by kernel_rfl) (by kernel_rfl) (fun _ _ _ h => h) (Or.inl ⟨by rfl, ?_⟩) (by assumption) ?_
      rotate_left
      · (intro wS hSw; (try dsimp only at hSw); go_simp; try with_reducible rfl)
      simp only [Act.put, List.setIfInBounds_toArray, List.set_cons_zero, List.set_cons_succ]
      refine one_ (i := 13) _ (by kernel_rfl) rfl (fun K hK => ?_)
      go_simp
      have e0 : (w1.setCell ⟨w.heap.size, 0, none⟩ (.slice (some ⟨wz.heap.size, 0, none⟩) 512 512)).cell? ⟨b, 0, none⟩ = w1.cell? ⟨b, 0, none⟩ := World.cell?_setCell_other _ _ _ _ (fun e => bq (congrArg Addr.block e).symm)
      have e1 : (w1.setCell ⟨w.heap.size, 0, none⟩ (.slice (some ⟨wz.heap.size, 0, none⟩) 512 512)).cell? ⟨b, 1, none⟩ = w1.cell? ⟨b, 1, none⟩ := World.cell?_setCell_other _ _ _ _ (fun e => bq (congrArg Addr.block e).symm)
      refine hK.out _ _ ⟨e0.trans S1.1, e1.trans S1.2⟩ (fun hHeld => ?_)
      clear hK K
      refine take_ (i := 14) (v := ?_) 4 rfl rfl (by kernel_rfl) (by kernel_rfl) (by kernel_rfl) (fun _ _ _ h => h) (Or.inl ⟨by rfl, ?_⟩) (by assumption) ?_
      rotate_left
      · (intro wS hSw; (try dsimp only at hSw); go_simp; try with_reducible rfl)
      simp only [Act.put, List.setIfInBounds_toArray, List.set_cons_zero, List.set_cons_succ]
      refine wpAnyH_done (by kernel_rfl) ?_ _
      refine NoPanic.normal ?_
      go_wp2_with fail
      go_meet
      case rel => exact ⟨rfl, BB.out.setCell (Nat.le_refl _) _, fun _ => ⟨w.heap.size, wz.heap.size, rfl, (HQ.out.set_ 0 _).cell 0, BU.out.only ((Only.refl [w.heap.size] _).setCell (.inl (by simp)) _) (by have := ZS.out; simp; omega), Nat.le_refl _, by have := ZS.out; omega, by rw [World.size_setCell]; exact HQ.out.lt, by have := ZS.out; omega⟩⟩
  case rest =>
    obtain ⟨rfl, hB, hq⟩ := hcut
    obtain ⟨q, g, rfl, hc, hu, hq1, hg1, hq2, hgq⟩ := hq rfl
    have B1 := Lib.hid hB
    have U1 := Lib.hid hu
    have LL : Hid (L.length = 512) := by show _ = _; rw [hL, sec_length]
    have HQ1 := Lib.hid hq1
    have HG1 := Lib.hid hg1
    have HGQ := Lib.hid hgq
    have mf : ∀ (fn : Fn) (first cap : Array Value) (w : World), (Instr.makeFunc fn first cap).run Tryz.prog w = .ok (.func fn first cap) w := fun _ _ _ _ => rfl
    clear hB hu hq1 hg1 hgq hL c0 c1
    go_wp2_with fail
    refine (field_any _ q g L 2 hc U1.out LL.out (by omega)).mono ?_
    rintro e w1 ⟨rfl, rfl⟩
    go_wp2_with fail
    refine (field_any _ q g L 3 hc U1.out LL.out (by omega)).mono ?_
    rintro e w1 ⟨rfl, rfl⟩
    go_wp2_with fail
    refine (field_any _ q g L 4 hc U1.out LL.out (by omega)).mono ?_
    rintro e w1 ⟨rfl, rfl⟩
    go_upto_region 6 with fail
    have hx : ∀ i, i ≤ 4 → fieldAt L i < 18446744073709551616 := fun i hi => by
      have h1 := unnum_lt ((L.drop (12 + i * 8)).take 8) (fun x hx => U1.out.bytes x (List.mem_of_mem_drop (List.mem_of_mem_take hx)))
      have h2 : ((L.drop (12 + i * 8)).take 8).length = 8 := by have := LL.out; rw [List.length_take, List.length_drop]; omega
      rw [h2] at h1
      exact h1
    have X2 := Lib.hid (hx 2 (by omega))
    have X3 := Lib.hid (hx 3 (by omega))
    have X4 := Lib.hid (hx 4 (by omega))
    have ER : Hid (readToldO s L = if L.take 56 = told s.frm s.ring (fieldAt L 2) (fieldAt L 3) (fieldAt L 4) then (0, { s with start := fieldAt L 2, first := fieldAt L 3, synced := fieldAt L 4 }) else (11, s)) := rfl
    clear hx RD mf
    generalize fieldAt L 2 = x2 at *
    generalize fieldAt L 3 = x3 at *
    generalize fieldAt L 4 = x4 at *
    have PP := Lib.hid (fun u hu => HP.out u hu X2.out X3.out X4.out (by have := X2.out; unfold wrap64; rw [IntKind.wrap_u64]; omega) (by have := X3.out; unfold wrap64; rw [IntKind.wrap_u64]; omega) (by have := X4.out; unfold wrap64; rw [IntKind.wrap_u64]; omega))
    clear HP
    generalize hz2 : wrap64 (x2 : Int) = z2 at *
    generalize hz3 : wrap64 (x3 : Int) = z3 at *
    generalize hz4 : wrap64 (x4 : Int) = z4 at *
    have Z2 := Lib.hid hz2
    have Z3 := Lib.hid hz3
    have Z4 := Lib.hid hz4
    obtain ⟨p, hp⟩ : ∃ p, p = wc.heap.size := ⟨_, rfl⟩
    have HH := Held.new wc 113 #[.int .i64 z2, .int .i64 z3, .int .i64 z4] rfl
    rw [← hp] at HH ⊢
    have EP := Lib.hid hp
    have q0 := HH.cell 0
    have q1 := HH.cell 1
    have q2 := HH.cell 2
    have HP := Lib.hid HH
    have BW : Hid (Below wc.heap.size wc (wc.alloc (.cells #[.int .i64 z2, .int .i64 z3, .int .i64 z4] 113))) := (Below.refl _ _).alloc (Nat.le_refl _) _
    have c3 : (wc.alloc (.cells #[.int .i64 z2, .int .i64 z3, .int .i64 z4] 113)).cell? ⟨q, 0, none⟩ = some (.slice (some ⟨g, 0, none⟩) 512 512) := (World.cell?_alloc_past _ _ _ hq2).trans hc
    have U2 := Lib.hid (U1.out.alloc (.cells #[.int .i64 z2, .int .i64 z3, .int .i64 z4] 113))
    clear hz2 hz3 hz4 hp HH hc
    generalize (wc.alloc (.cells #[.int .i64 z2, .int .i64 z3, .int .i64 z4] 113)) = wd at *
    have LD1 := Lib.hid (H.out.under (B1.out.trans (BW.out.mono B1.out.size)))
    refine wp_region_noPanic ?_
    refine wp_region_held_drew (S := fun w' => w'.cell? ⟨q, 0, none⟩ = some (.slice (some ⟨g, 0, none⟩) 512 512) ∧ w'.cell? ⟨p, 0, none⟩ = some (.int .i64 z2) ∧ w'.cell? ⟨p, 1, none⟩ = some (.int .i64 z3) ∧ w'.cell? ⟨p, 2, none⟩ = some (.int .i64 z4)) (by kernel_rfl) ⟨c3, q0, q1, q2⟩ (fun hHeld => ?_)
    refine take_ (i := 0) (v := ?_) 30 rfl rfl (by kernel_rfl) (by kernel_rfl) (by kernel_rfl) (fun _ _ _ h => h) (Or.inl ⟨by rfl, ?_⟩) (by assumption) ?_
    rotate_left
    · (intro wS hSw; (try dsimp only at hSw); go_simp; try with_reducible rfl)
    simp only [Act.put, List.setIfInBounds_toArray, List.set_cons_zero, List.set_cons_succ]
    refine take_ (i := 1) (v := ?_) 31 rfl rfl (by kernel_rfl) (by kernel_rfl) (by kernel_rfl) (fun _ _ _ h => h) (Or.inl ⟨by rfl, ?_⟩) (by assumption) ?_
    rotate_left
    · (intro wS hSw; (try dsimp only at hSw); go_simp; try with_reducible rfl)
    simp only [Act.put, List.setIfInBounds_toArray, List.set_cons_zero, List.set_cons_succ]
    refine take_ (i := 2) (v := ?_) 32 rfl rfl (by kernel_rfl) (by kernel_rfl) (by kernel_rfl) (fun _ _ _ h => h) (Or.inl ⟨by rfl, ?_⟩) (by assumption) ?_
    rotate_left
    · (intro wS hSw; (try dsimp only at hSw); go_simp; try with_reducible rfl)
    simp only [Act.put, List.setIfInBounds_toArray, List.set_cons_zero, List.set_cons_succ]
    have C1 := Lib.hid (PP.out wd.drew LD1.out.drew)
    refine one_ (i := 3) _ (by kernel_rfl) rfl (fun K hK => ?_)
    go_simp
    refine C1.out.mono ?_
    rintro e w1 ⟨v1, rfl, hn1, hk1⟩
    have hb : b < w.heap.size := blt
    have QB : Hid (q ≠ b ∧ p ≠ b ∧ g ≠ b) := by
      have h1 := HQ1.out
      have h2 := HG1.out
      have h3 := EP.out
      have h4 := B1.out.size
      exact ⟨by omega, by omega, by omega⟩
    have LP : Hid (q < wd.heap.size) := Nat.lt_of_lt_of_le hq2 BW.out.size
    have S1 : w1.cell? ⟨q, 0, none⟩ = some (.slice (some ⟨g, 0, none⟩) 512 512) ∧ w1.cell? ⟨p, 0, none⟩ = some (.int .i64 z2) ∧ w1.cell? ⟨p, 1, none⟩ = some (.int .i64 z3) ∧ w1.cell? ⟨p, 2, none⟩ = some (.int .i64 z4) := by
      have h1 := hk1.2.cell (p := ⟨q, 0, none⟩) LP.out (by simpa using QB.out.1)
      have hP : Held w1 p _ _ := HP.out.drew.only hk1.2 (by simpa using QB.out.2.1)
      exact ⟨h1.trans c3, hP.cell 0, hP.cell 1, hP.cell 2⟩
    have HP1 : Hid (Held w1 p 113 #[.int .i64 z2, .int .i64 z3, .int .i64 z4]) := HP.out.drew.only hk1.2 (by simpa using QB.out.2.1)
    have U3 : Hid (Buf w1 g L) := U2.out.drew.only hk1.2 (by simpa using QB.out.2.2)
    obtain ⟨A, c, rfl, tb⟩ := hn1.1.form
    have T1 := Lib.hid tb
    have L1 := Lib.hid hk1.1
    have O1 : Hid (Only (G ++ F) w w1) := ((Only.of_below (F := G ++ F) (B1.out.trans (BW.out.mono B1.out.size))).drew).trans hk1.2 (fun x hx => .inl (by
      obtain rfl : x = b := by simpa using hx
      exact List.mem_append.2 (.inl H.out.mem)))
    clear hn1 hk1 tb C1 HP U2 c3 q0 q1 q2 LD1
    rw [told_length] at T1 ⊢
    go_wp2_with fail
    refine hK.out _ _ S1 (fun hHeld => ?_)
    clear hK K
    have TB := Lib.hid (U3.out.bts (off := 0) (n := 512) (by have := LL.out; omega))
    refine one_ (i := 4) _ (by kernel_rfl) rfl (fun K hK => ?_)
    go_simp
    refine (hasPrefix_any w1 _ A 512 512 56 c _ _ TB.out T1.out (by omega) (by omega)).mono ?_
    rintro e w2 ⟨rfl, rfl⟩
    have et : ((L.drop 0).take 512).take 56 = L.take 56 := by rw [List.drop_zero, List.take_take]; rfl
    rw [et]
    clear et
    go_wp2_with fail
    refine hK.out _ _ S1 (fun hHeld => ?_)
    clear hK K
    obtain ⟨bb, hbb⟩ : ∃ bb, bb = decide (L.take 56 = told s.frm s.ring x2 x3 x4) := ⟨_, rfl⟩
    have EB := Lib.hid hbb
    rw [← hbb]
    clear hbb
    refine take_ (i := 5) (v := ?_) 35 rfl rfl (by kernel_rfl) (by kernel_rfl) (by kernel_rfl) (fun _ _ _ h => h) (Or.inl ⟨by rfl, ?_⟩) (by assumption) ?_
    rotate_left
    · (intro wS hSw; (try dsimp only at hSw); go_simp; try with_reducible rfl)
    simp only [Act.put, List.setIfInBounds_toArray, List.set_cons_zero, List.set_cons_succ]
    refine wpAnyH_done (by kernel_rfl) ?_ _
    refine NoPanic.normal ?_
    obtain ⟨S11, S12, S13, S14⟩ := S1
    clear hHeld S11
    cases bb
    · have hno : ¬ L.take 56 = told s.frm s.ring x2 x3 x4 := of_decide_eq_false EB.out.symm
      rw [if_neg hno] at ER
      clear hno
      go_wp2_with fail
      go_ret
      rw [ER.out]
      exact ⟨rfl, G, F, L1.out, O1.out, Grown.refl _ _, Grown.refl _ _⟩
    · have hyes : L.take 56 = told s.frm s.ring x2 x3 x4 := of_decide_eq_true EB.out.symm
      rw [if_pos hyes] at ER
      obtain ⟨g1, g2, g3, g4⟩ := HG.out hyes
      clear hyes
      have y2 : z2 = (x2 : Int) := by rw [← Z2.out]; have := HR.out; unfold wrap64; omega
      have y3 : z3 = (x3 : Int) := by rw [← Z3.out]; unfold wrap64; omega
      have y4 : z4 = (x4 : Int) := by rw [← Z4.out]; unfold wrap64; omega
      subst y2 y3 y4
      obtain ⟨vn1, hl1, _⟩ := L1.out.log
      have c2 := hl1.c2
      have k3 := hl1.c3
      have k4 := hl1.c4
      have k5 := hl1.c5
      have f3 := hl1.tab.fr 3
      have f4 := hl1.tab.fr 4
      have f5 := hl1.tab.fr 5
      have d1 : decide ((x2 : Int) < 0) = false := decide_eq_false (by omega)
      have d2 : decide ((s.ring : Int) ≤ (x2 : Int)) = false := decide_eq_false (by omega)
      have d2' : decide (s.ring ≤ x2) = false := decide_eq_false (by omega)
      have d3 : decide ((x3 : Int) < 1) = false := decide_eq_false (by omega)
      have d4 : decide ((x4 : Int) < (x3 : Int) - 1) = false := decide_eq_false (by omega)
      have T := Lib.hid (fun n => (L1.out.drewN n).telling x2 x3 x4)
      clear hl1
      go_wp2_with fail
      go_quiet (fail)
      go_wp2_with fail
      go_ret
      rw [ER.out]
      refine ⟨rfl, LTurned.trans ((O1.out).drewN _) (Grown.refl _ _) (Grown.refl _ _) (T.out _)⟩
end Go.Proofs.YtkajneeihhobhaaGreat
