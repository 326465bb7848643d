/-
  wal: the contract of tell.
-/
import Derived.Test.YtaoldopkehbhkaaWal8
import Derived.Test.YtaoldopkehbhkaaReg
namespace Go.Proofs.Ytaoldopkehbhkaa
open Go.RowKit Wal

namespace Wal
/-- What a call answers and leaves: its error, the log, the disk. -/
abbrev Out := Int × LS × Dsk.DM
def wrO (s : LS) (m : Dsk.DM) (i : Nat) (l : List Nat) : Out := (m.writeErr i l.length, { s with dead := m.writeErr i l.length != 0 }, m.write i l)
def flO (s : LS) (m : Dsk.DM) : Out := (m.flushErr, { s with dead := m.flushErr != 0 }, m.flush)
def tellO (s : LS) (m : Dsk.DM) (st fi sy : Nat) : Out :=
  let a := wrO s m s.frm (told s.frm s.ring st fi sy)
  if a.1 ≠ 0 then a else
  let c := flO a.2.1 a.2.2
  if c.1 ≠ 0 then c else (0, { c.2.1 with start := st, first := fi, synced := sy }, c.2.2)
end Wal

/-- A call on a log, as its model says. -/
def LRes (w : World) (b : Nat) (G : List Nat) (d : Nat) (F : List Nat) (o : Out) (e : Ending) (w' : World) : Prop := e = .returned (.int .i64 o.1) ∧ LTurned w b G d F w' o.2.1 o.2.2

theorem lwrite_o (w : World) (b d : Nat) (s : LS) (G F : List Nat) (m : Dsk.DM) (i : Nat) (A : Option Addr) (n c : Nat) (l : List Nat) (h : LD w b G s d F m) (hl : Bts w A n l) (hn : n ≤ 9223372036854775807) (hA : 0 < n → ∀ x, A = some x → x.block ∉ F) (hw : m.wait.length ≤ 5800000000000) :
    Calls Try.prog 56 #[.pointer (some ⟨b, 0, none⟩), .int .i64 (i : Int), .slice A n c] w (LRes w b G d F (wrO s m i l)) := by
  have e := hl.1
  refine (lwrite_any w b d s G F m i A n c l h hl hn hA hw).mono ?_
  rintro e w' ⟨rfl, ht⟩
  subst n
  exact ⟨rfl, ht⟩
theorem lflush_o (w : World) (b d : Nat) (s : LS) (G F : List Nat) (m : Dsk.DM) (h : LD w b G s d F m) (hw : m.wait.length ≤ 5800000000000) :
    Calls Try.prog 58 #[.pointer (some ⟨b, 0, none⟩)] w (LRes w b G d F (flO s m)) :=
  (lflush_any w b d s G F m h hw).mono fun _ _ ⟨h1, h2⟩ => ⟨h1, h2⟩
theorem write_wait (m : Dsk.DM) (i : Int) (l : List Nat) : (m.write i l).wait.length ≤ m.wait.length + 1 := by
  unfold Dsk.DM.write
  split
  · omega
  · split
    · omega
    · split
      · show m.wait.length ≤ _; omega
      · simp

section
variable {w w' : World} {b d : Nat} {s : LS} {G F : List Nat} {m : Dsk.DM}
theorem LTurned.open_ (h : LTurned w b G d F w' s m) : ∃ G' F', LD w' b G' s d F' m ∧ Only (G ++ F) w w' ∧ Grown w G G' ∧ Grown w F F' := h
theorem LD.far_new (h : LD w b G s d F m) {q : Nat} (hq : w.heap.size ≤ q) : q ∉ G ++ F := fun hm => by
  rcases List.mem_append.1 hm with hm | hm
  · have := h.glt q hm; omega
  · have := h.flt q hm; omega
/-- The three words that the log's own sector tells are stored. -/
theorem LD.telling (h : LD w b G s d F m) (st fi sy : Nat) : LTurned w b G d F (((w.setCell ⟨b, 3, none⟩ (.int .i64 (st : Int))).setCell ⟨b, 4, none⟩ (.int .i64 (fi : Int))).setCell ⟨b, 5, none⟩ (.int .i64 (sy : Int))) { s with start := st, first := fi, synced := sy } m := by
  have hb := h.mem
  have hbF := h.apart b hb
  have ho : Only [b] w (((w.setCell ⟨b, 3, none⟩ (.int .i64 (st : Int))).setCell ⟨b, 4, none⟩ (.int .i64 (fi : Int))).setCell ⟨b, 5, none⟩ (.int .i64 (sy : Int))) := (((Only.refl _ w).setCell (.inl (by simp)) _).setCell (.inl (by simp)) _).setCell (.inl (by simp)) _
  have hy1 : ∀ y ∈ F, y ∉ [b] := fun y hy e => by
    obtain rfl : y = b := by simpa using e
    exact hbF hy
  have hy2 : ∀ y ∈ [b], y ∈ G ++ F ∨ w.heap.size ≤ y := fun y hy => by
    obtain rfl : y = b := by simpa using hy
    exact .inl (List.mem_append.2 (.inl hb))
  refine ⟨G, F, ⟨?_, h.disk.only ho hy1, h.apart⟩, ho.mono hy2, Grown.refl _ _, Grown.refl _ _⟩
  obtain ⟨vn, hl, rfl⟩ := h.log
  refine ⟨vn, ?_, rfl⟩
  have ne : ∀ i j : Nat, i ≠ j → (⟨b, i, none⟩ : Addr) ≠ ⟨b, j, none⟩ := fun i j hij e => hij (congrArg Addr.off e)
  have hc : ∀ i, i ≠ 3 → i ≠ 4 → i ≠ 5 → (((w.setCell ⟨b, 3, none⟩ (.int .i64 (st : Int))).setCell ⟨b, 4, none⟩ (.int .i64 (fi : Int))).setCell ⟨b, 5, none⟩ (.int .i64 (sy : Int))).cell? ⟨b, i, none⟩ = w.cell? ⟨b, i, none⟩ := fun i h3 h4 h5 => by
    rw [World.cell?_setCell_other _ _ _ _ (ne _ _ (Ne.symm h5)), World.cell?_setCell_other _ _ _ _ (ne _ _ (Ne.symm h4)), World.cell?_setCell_other _ _ _ _ (ne _ _ (Ne.symm h3))]
  refine ⟨(hc 0 (by omega) (by omega) (by omega)).trans hl.c0, (hc 1 (by omega) (by omega) (by omega)).trans hl.c1, (hc 2 (by omega) (by omega) (by omega)).trans hl.c2, ?_, ?_, ?_, (hc 6 (by omega) (by omega) (by omega)).trans hl.c6, (hc 7 (by omega) (by omega) (by omega)).trans hl.c7,
    hl.tab.far ho.size (fun i hi => hc i (by omega) (by omega) (by omega)) (fun i => by rw [World.frozen?_setCell, World.frozen?_setCell, World.frozen?_setCell]), hl.row.only ho (fun g hg => by simpa using hl.far g hg), hl.far⟩
  · rw [World.cell?_setCell_other _ _ _ _ (ne _ _ (by omega)), World.cell?_setCell_other _ _ _ _ (ne _ _ (by omega))]
    exact World.cell?_setCell_same _ _ _ hl.c3
  · rw [World.cell?_setCell_other _ _ _ _ (ne _ _ (by omega))]
    exact World.cell?_setCell_same _ _ _ ((World.cell?_setCell_other _ _ _ _ (ne _ _ (by omega))).trans hl.c4)
  · exact World.cell?_setCell_same _ _ _ ((World.cell?_setCell_other _ _ _ _ (ne _ _ (by omega))).trans ((World.cell?_setCell_other _ _ _ _ (ne _ _ (by omega))).trans hl.c5))
end

set_option maxRecDepth 100000 in
set_option maxHeartbeats 800000 in
theorem tell_any (w : World) (b d : Nat) (s : LS) (G F : List Nat) (m : Dsk.DM) (st fi sy : Nat) (h : LD w b G s d F m) (hf : s.frm ≤ 4096) (hr : s.ring ≤ 4096) (h1 : st ≤ 4611686018427387904) (h2 : fi ≤ 4611686018427387904) (h3 : sy ≤ 4611686018427387904)
    (hw : m.wait.length ≤ 5700000000000) :
    Calls Try.prog 51 #[.pointer (some ⟨b, 0, none⟩), .agg #[.int .i64 (st : Int), .int .i64 (fi : Int), .int .i64 (sy : Int)]] w (LRes w b G d F (tellO s m st fi sy)) := by
  have H := Lib.hid h
  obtain ⟨vn, hl, hG⟩ := h.log
  have blt := hl.lt
  have c1 := hl.c1
  have HP := Lib.hid (fun (u : World) (hu : LD u b G s d F m) => packTold_any u b d s G F m st fi sy hu hf hr h1 h2 h3)
  have WW := Lib.hid hw
  clear h hl hf hr h1 h2 h3 hw
  go_enter Try.func51, Try.ntmps51
  go_wp2_with fail
  obtain ⟨wb, hwb⟩ : ∃ wb, wb = w.alloc (.cells #[.int .i64 (st : Int), .int .i64 (fi : Int), .int .i64 (sy : Int)] 94) := ⟨_, rfl⟩
  have c1b : wb.cell? ⟨b, 1, none⟩ = some (.int .i64 (s.frm : Int)) := by rw [hwb]; exact (World.cell?_alloc_past _ _ _ blt).trans c1
  have HH := Held.new w 94 #[.int .i64 (st : Int), .int .i64 (fi : Int), .int .i64 (sy : Int)] rfl
  rw [← hwb] at HH
  obtain ⟨q, hq⟩ : ∃ q, q = w.heap.size := ⟨_, rfl⟩
  have EQ := Lib.hid hq
  rw [← hq] at HH
  have q0 := HH.cell 0
  have q1 := HH.cell 1
  have q2 := HH.cell 2
  have HQ := Lib.hid HH
  have BB : Hid (Below w.heap.size w wb) := by rw [hwb]; exact (Below.refl _ _).alloc (Nat.le_refl _) _
  have LB := Lib.hid (H.out.under BB.out)
  rw [← hwb, ← hq]
  clear hwb hq HH c1
  refine wp_region_noPanic ?_
  refine wp_region_held_drew (S := fun w' => w'.cell? ⟨b, 1, none⟩ = some (.int .i64 (s.frm : Int)) ∧ w'.cell? ⟨q, 0, none⟩ = some (.int .i64 (st : Int)) ∧ w'.cell? ⟨q, 1, none⟩ = some (.int .i64 (fi : Int)) ∧ w'.cell? ⟨q, 2, none⟩ = some (.int .i64 (sy : Int))) (by kernel_rfl) ⟨c1b, q0, q1, q2⟩ (fun hHeld => ?_)
  refine take_ (i := 0) (v := ?_) 7 rfl rfl (by kernel_rfl) (by kernel_rfl) (by kernel_rfl) (fun _ _ _ h => h) (Or.inl ⟨by rfl, ?_⟩) (by assumption) ?_
  rotate_left
  · (intro wS hSw; (try dsimp only at hSw); go_simp; try with_reducible rfl)
  simp only [Act.put, List.setIfInBounds_toArray, List.set_cons_zero, List.set_cons_succ]
  refine take_ (i := 1) (v := ?_) 8 rfl rfl (by kernel_rfl) (by kernel_rfl) (by kernel_rfl) (fun _ _ _ h => h) (Or.inl ⟨by rfl, ?_⟩) (by assumption) ?_
  rotate_left
  · (intro wS hSw; (try dsimp only at hSw); go_simp; try with_reducible rfl)
  simp only [Act.put, List.setIfInBounds_toArray, List.set_cons_zero, List.set_cons_succ]
  refine take_ (i := 2) (v := ?_) 9 rfl rfl (by kernel_rfl) (by kernel_rfl) (by kernel_rfl) (fun _ _ _ h => h) (Or.inl ⟨by rfl, ?_⟩) (by assumption) ?_
  rotate_left
  · (intro wS hSw; (try dsimp only at hSw); go_simp; try with_reducible rfl)
  simp only [Act.put, List.setIfInBounds_toArray, List.set_cons_zero, List.set_cons_succ]
  refine take_ (i := 3) (v := ?_) 10 rfl rfl (by kernel_rfl) (by kernel_rfl) (by kernel_rfl) (fun _ _ _ h => h) (Or.inl ⟨by rfl, ?_⟩) (by assumption) ?_
  rotate_left
  · (intro wS hSw; (try dsimp only at hSw); go_simp; try with_reducible rfl)
  simp only [Act.put, List.setIfInBounds_toArray, List.set_cons_zero, List.set_cons_succ]
  refine take_ (i := 4) (v := ?_) 11 rfl rfl (by kernel_rfl) (by kernel_rfl) (by kernel_rfl) (fun _ _ _ h => h) (Or.inl ⟨by rfl, ?_⟩) (by assumption) ?_
  rotate_left
  · (intro wS hSw; (try dsimp only at hSw); go_simp; try with_reducible rfl)
  simp only [Act.put, List.setIfInBounds_toArray, List.set_cons_zero, List.set_cons_succ]
  refine take_ (i := 5) (v := ?_) 12 rfl rfl (by kernel_rfl) (by kernel_rfl) (by kernel_rfl) (fun _ _ _ h => h) (Or.inl ⟨by rfl, ?_⟩) (by assumption) ?_
  rotate_left
  · (intro wS hSw; (try dsimp only at hSw); go_simp; try with_reducible rfl)
  simp only [Act.put, List.setIfInBounds_toArray, List.set_cons_zero, List.set_cons_succ]
  refine take_ (i := 6) (v := ?_) 13 rfl rfl (by kernel_rfl) (by kernel_rfl) (by kernel_rfl) (fun _ _ _ h => h) (Or.inl ⟨by rfl, ?_⟩) (by assumption) ?_
  rotate_left
  · (intro wS hSw; (try dsimp only at hSw); go_simp; try with_reducible rfl)
  simp only [Act.put, List.setIfInBounds_toArray, List.set_cons_zero, List.set_cons_succ]
  have C1 := Lib.hid (HP.out wb.drew LB.out.drew)
  refine one_ (i := 7) _ (by kernel_rfl) rfl (fun K hK => ?_)
  go_simp
  refine C1.out.mono ?_
  rintro e w1 ⟨v1, rfl, hn1, hk1⟩
  have L1 := Lib.hid hk1.1
  have K1 := Lib.hid hk1.2
  obtain ⟨A, c, rfl, tb⟩ := hn1.1.form
  have N1 := Lib.hid hn1
  have T1 := Lib.hid tb
  have QN : Hid (q < wb.heap.size ∧ q ≠ b) := ⟨HQ.out.lt, by have := EQ.out; omega⟩
  have S1 : w1.cell? ⟨b, 1, none⟩ = some (.int .i64 (s.frm : Int)) ∧ w1.cell? ⟨q, 0, none⟩ = some (.int .i64 (st : Int)) ∧ w1.cell? ⟨q, 1, none⟩ = some (.int .i64 (fi : Int)) ∧ w1.cell? ⟨q, 2, none⟩ = some (.int .i64 (sy : Int)) := by
    obtain ⟨vn1, hl1, _⟩ := hk1.1.log
    have hQ1 : Held w1 q _ _ := HQ.out.drew.only hk1.2 (by simpa using QN.out.2)
    exact ⟨hl1.c1, hQ1.cell 0, hQ1.cell 1, hQ1.cell 2⟩
  have H1 : Hid (Held w1 q 94 #[.int .i64 (st : Int), .int .i64 (fi : Int), .int .i64 (sy : Int)]) := HQ.out.drew.only hk1.2 (by simpa using QN.out.2)
  clear hn1 hk1 tb C1 HP LB HQ q0 q1 q2 c1b
  rw [told_length] at N1 T1 ⊢
  go_wp2_with fail
  refine hK.out _ _ S1 (fun hHeld => ?_)
  clear hK K
  have C2 := Lib.hid (lwrite_o w1 b d s G F m s.frm A 56 c _ L1.out T1.out (by omega) (fun _ x hx hm => by
    subst hx
    have h1 := N1.out.2 x.block rfl
    have h2 := LD.flt (h := H.out) x.block hm
    have h3 := BB.out.size
    have h4 : wb.drew.heap.size = wb.heap.size := rfl
    omega) (by have := WW.out; omega))
  refine one_ (i := 8) _ (by kernel_rfl) rfl (fun K hK => ?_)
  go_simp
  refine C2.out.mono ?_
  rintro e w2 ⟨rfl, ht⟩
  obtain ⟨G2, F2, hL2, hO2, hNG, hNF⟩ := ht
  have QF : q ∉ G ++ F := H.out.far_new (by have := EQ.out; omega)
  have H2 := Lib.hid (H1.out.only hO2 QF)
  have L2 := Lib.hid hL2
  have OA : Only (G ++ F) w w1 := ((Only.of_below (F := G ++ F) BB.out).drew).trans K1.out (fun x hx => .inl (by
    obtain rfl : x = b := by simpa using hx
    exact List.mem_append.2 (.inl H.out.mem)))
  have O2 : Hid (Only (G ++ F) w w2) := OA.trans hO2 (fun x hx => .inl hx)
  have QF2 : Hid (q ∉ G2 ++ F2) := fun hm => by
    rcases hNG.append hNF q hm with h | h
    · exact QF h
    · have h1 := QN.out.1
      have h2 := K1.out.size
      have h3 : wb.drew.heap.size = wb.heap.size := rfl
      omega
  have NG := Lib.hid ((Grown.refl w G).trans OA.size hNG)
  have NF := Lib.hid ((Grown.refl w F).trans OA.size hNF)
  have S2 : w2.cell? ⟨b, 1, none⟩ = some (.int .i64 (s.frm : Int)) ∧ w2.cell? ⟨q, 0, none⟩ = some (.int .i64 (st : Int)) ∧ w2.cell? ⟨q, 1, none⟩ = some (.int .i64 (fi : Int)) ∧ w2.cell? ⟨q, 2, none⟩ = some (.int .i64 (sy : Int)) := by
    obtain ⟨vn2, hl2, _⟩ := hL2.log
    exact ⟨hl2.c1, H2.out.cell 0, H2.out.cell 1, H2.out.cell 2⟩
  have Q2 := Lib.hid S2.2
  have W2 : Hid ((m.write (s.frm : Int) (told s.frm s.ring st fi sy)).wait.length ≤ 5800000000000) := by
    have h1 := write_wait m (s.frm : Int) (told s.frm s.ring st fi sy)
    have h2 := WW.out
    show _ ≤ _
    omega
  clear hL2 hO2 hNG hNF C2 L1 H1 K1 N1 T1 BB OA
  go_wp2_with fail
  refine hK.out _ _ S2 (fun hHeld => ?_)
  clear hK K
  refine take_ (i := 9) (v := ?_) 5 rfl rfl (by kernel_rfl) (by kernel_rfl) (by kernel_rfl) (fun _ _ _ h => h) (Or.inl ⟨by rfl, ?_⟩) (by assumption) ?_
  rotate_left
  · (intro wS hSw; (try dsimp only at hSw); go_simp; try with_reducible rfl)
  simp only [Act.put, List.setIfInBounds_toArray, List.set_cons_zero, List.set_cons_succ]
  refine wpAnyH_done (by kernel_rfl) ?_ _
  refine NoPanic.normal ?_
  clear S1 S2 hHeld
  obtain ⟨o, ho⟩ : ∃ o, o = wrO s m s.frm (told s.frm s.ring st fi sy) := ⟨_, rfl⟩
  have EO := Lib.hid ho
  rw [← ho] at L2 ⊢
  obtain ⟨z, s1, m1⟩ := o
  have e1 : tellO s m st fi sy = if z ≠ 0 then (z, s1, m1) else if (flO s1 m1).1 ≠ 0 then flO s1 m1 else (0, { (flO s1 m1).2.1 with start := st, first := fi, synced := sy }, (flO s1 m1).2.2) := by
    unfold tellO
    rw [← ho]
  have hm1 : m1 = m.write (s.frm : Int) (told s.frm s.ring st fi sy) := congrArg (fun o : Out => o.2.2) ho
  rw [← hm1] at W2
  clear ho hm1 EO
  dsimp only at L2 ⊢
  by_cases hz : z = 0
  · subst hz
    rw [if_neg (by simp)] at e1
    have E1 := Lib.hid e1
    clear e1
    go_wp2_with fail
    refine (lflush_o w2 b d s1 G2 F2 m1 L2.out W2.out).mono ?_
    rintro e w3 ⟨rfl, ht⟩
    obtain ⟨G3, F3, hL3, hO3, hNG, hNF⟩ := ht
    have H3 := Lib.hid (H2.out.only hO3 QF2.out)
    have O3 := Lib.hid (O2.out.trans hO3 (NG.out.append NF.out))
    have NG3 := Lib.hid (NG.out.trans O2.out.size hNG)
    have NF3 := Lib.hid (NF.out.trans O2.out.size hNF)
    have L3 := Lib.hid hL3
    clear hL3 hO3 hNG hNF L2 O2 NG NF H2 Q2
    obtain ⟨o, ho⟩ : ∃ o, o = flO s1 m1 := ⟨_, rfl⟩
    rw [← ho] at L3 E1 ⊢
    obtain ⟨y, s2, m2⟩ := o
    clear ho
    dsimp only at L3 E1 ⊢
    by_cases hy : y = 0
    · subst hy
      have T := Lib.hid (L3.out.telling st fi sy)
      have r0 := H3.out.cell 0
      have r1 := H3.out.cell 1
      have r2 := H3.out.cell 2
      obtain ⟨vn3, hl3, _⟩ := L3.out.log
      have k3 := hl3.c3
      have k4 := hl3.c4
      have k5 := hl3.c5
      have f3 := hl3.tab.fr 3
      have f4 := hl3.tab.fr 4
      have f5 := hl3.tab.fr 5
      clear hl3
      go_wp2_with fail
      go_ret
      rw [E1.out, if_neg (by simp)]
      exact ⟨rfl, LTurned.trans O3.out NG3.out NF3.out T.out⟩
    · have hy1 : (y == 0) = false := by simpa using hy
      have hy2 : (y != 0) = true := by simpa using hy
      have E2 : Hid (tellO s m st fi sy = (y, s2, m2)) := by show _ = _; rw [E1.out, if_pos hy]
      clear E1 hy
      go_wp2_with fail
      go_ret
      rw [E2.out]
      exact ⟨rfl, G3, F3, L3.out, O3.out, NG3.out, NF3.out⟩
  · rw [if_pos hz] at e1
    have hz1 : (z == 0) = false := by simpa using hz
    have hz2 : (z != 0) = true := by simpa using hz
    have E1 := Lib.hid e1
    clear e1 hz
    go_wp2_with fail
    go_ret
    rw [E1.out]
    exact ⟨rfl, G2, F2, L2.out, O2.out, NG.out, NF.out⟩
end Go.Proofs.Ytaoldopkehbhkaa
