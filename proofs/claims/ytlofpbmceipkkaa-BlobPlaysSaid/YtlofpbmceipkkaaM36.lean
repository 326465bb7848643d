/-
  The law's whole: each blob is as it was written, on blocks of its own.
-/
import Derived.Test.YtlofpbmceipkkaaM35
namespace Go.Proofs.Ytlofpbmceipkkaa
open Go.RowKit Wal Blob

/-- Which numbers have been seen. -/
def seenC (S : List Nat) : Array Value := ((List.range 4098).map fun i => Value.bool (decide (i ∈ S))).toArray
theorem seenC_size (S : List Nat) : (seenC S).size = 4098 := by simp [seenC]
theorem seenC_at (S : List Nat) (v : Nat) (h : v < 4098) : (seenC S)[v]? = some (.bool (decide (v ∈ S))) := by
  unfold seenC
  rw [List.getElem?_toArray, List.getElem?_map, List.getElem?_range h]
  rfl
theorem seenC_set (S : List Nat) (v : Nat) : (seenC S).setIfInBounds v (.bool true) = seenC (S ++ [v]) := by
  apply Array.ext_getElem?
  intro j
  by_cases hj : j < 4098
  · rw [seenC_at _ _ hj]
    by_cases c : j = v
    · subst c
      rw [Array.getElem?_setIfInBounds_self, if_pos (by rw [seenC_size]; exact hj)]
      simp
    · rw [Array.getElem?_setIfInBounds_ne (Ne.symm c), seenC_at _ _ hj]
      simp [c]
  · rw [Array.getElem?_eq_none (by rw [Array.size_setIfInBounds, seenC_size]; omega), Array.getElem?_eq_none (by rw [seenC_size]; omega)]
theorem infoBool : (Try.prog.info? 4).map (fun i => (i.zero, i.size, i.bytes)) = some (some (.bool false), 1, 1) := by kernel_rfl
theorem make_seen (u : World) : (Instr.makeSlice 63 (.int .i64 4098) (.int .i64 4098)).run Try.prog u = .ok (.slice (some ⟨u.heap.size, 0, none⟩) 4098 4098) (u.alloc (.cells (seenC []) 4)) := by
  obtain ⟨i0, hi, hz0, hz1, hz2⟩ := info_parts infoBool
  have h := run_make (P := Try.prog) u 63 4 i0 (.bool false) Try.underlying63 hi hz0 .i64 .i64 4098 4098 (by omega) (by omega) (by rw [hz2]; decide) (by decide)
  have e2 : madeCells #[.bool false] 4098 = seenC [] := by
    apply Array.toList_inj.1
    rw [toList_madeCells_one]
    unfold seenC
    rw [List.toList_toArray]
    refine (List.eq_replicate_iff.2 ⟨by simp, fun b hb => ?_⟩).symm
    obtain ⟨i, _, rfl⟩ := List.mem_map.1 hb
    simp
  rw [← e2]
  simpa [hz1, Value.cells] using h
/-- The blocks of the first k blobs. -/
def seenB (bl : List BL) (k : Nat) : List Nat := (bl.take k).flatMap fun b => allB b.h b.parts
theorem seenB_succ (bl : List BL) (k : Nat) (hk : k < bl.length) : seenB bl (k + 1) = seenB bl k ++ allB bl[k].h bl[k].parts := by
  unfold seenB
  rw [List.take_succ_eq_append_getElem hk, List.flatMap_append]
  simp
theorem Good.fresh {n : Nat} {f : Nat → Option KB} {bl : List BL} (g : Good n f bl) {k : Nat} (hk : k < bl.length) : ∀ v ∈ allB bl[k].h bl[k].parts, v ∉ seenB bl k := by
  intro v hv hs
  obtain ⟨b, hb, hvb⟩ := List.mem_flatMap.1 hs
  obtain ⟨i, hi, rfl⟩ := List.mem_iff_getElem.1 hb
  rw [List.length_take] at hi
  rw [List.getElem_take] at hvb
  exact List.pairwise_iff_getElem.1 g.apart i k (by omega) hk (by omega) v hvb hv
set_option maxRecDepth 100000 in
set_option maxHeartbeats 6400000 in
theorem whole_any (B : Nat) (w : World) (hB : B ≤ w.heap.size) (p n : Nat) (f : Nat → Option KB) (hm : MemAt B w p n f) (bl : List BL) (v : Value) (hv : OwnH w B v bl) (hg : Good n f bl) (h60 : bl.length ≤ 1000) :
    Calls Try.prog 13 #[.pointer (some ⟨p, 0, none⟩), v] w fun e w' => e = .returned (.bool true) ∧ Below B w w' := by
  obtain ⟨A, c, rfl, hcap, ha⟩ := hv.any
  have OV := Lib.hid hv
  have GD := Lib.hid hg
  have MM := Lib.hid hm
  have mk := make_seen
  obtain ⟨w1, hw1⟩ : ∃ w1, w1 = w.alloc (.cells (seenC []) 4) := ⟨_, rfl⟩
  obtain ⟨gs, hgs⟩ : ∃ gs, gs = w.heap.size := ⟨_, rfl⟩
  have B1 : Hid (Below w.heap.size w w1) := by rw [hw1]; exact (Below.refl _ _).alloc (Nat.le_refl _) _
  have S1 : Hid (Held w1 gs 4 (seenC [])) := by rw [hw1]; exact Held.new _ _ _ hgs
  have HW := Lib.hid hw1
  have HGS := Lib.hid hgs
  clear hv ha hg hm hw1 hgs
  go_enter Try.func13, Try.ntmps13
  go_upto_region 2 with fail
  rw [← HW.out, ← HGS.out]
  clear HW mk
  go_wp2_with fail
  go_loopw [6] (fun i wr => ∃ k : Nat, k ≤ bl.length ∧ i = .int .i64 k ∧ Hid (MemAt B wr p n f ∧ Kp B w wr ∧ OwnH wr B (.slice A bl.length c) bl ∧ Held wr gs 4 (seenC (seenB bl k)))) (fun i _ => bl.length - (intOf i).toNat)
  case atStart => exact ⟨0, by omega, rfl, MM.out.under B1.out, Kp.under B1.out, OV.out.kp (Kp.under (B := B) B1.out), S1.out⟩
  case round =>
    obtain ⟨k, hk, rfl, G⟩ := hrel
    by_cases hlt : k < bl.length
    · have lk : (k : Int) < (bl.length : Int) := by omega
      have TH := Lib.hid (GD.out.each bl[k] (List.getElem_mem hlt))
      have FR := Lib.hid (GD.out.fresh hlt)
      have SB := Lib.hid (seenB_succ bl k hlt)
      have MI := Lib.hid TH.out.mine
      have LN := Lib.hid TH.out.len
      have l49 := TH.out.most
      have T8 := Lib.hid TH.out.bytes
      have HH : ∀ u, OwnH u B (.slice A bl.length c) bl → ∃ g off, A = some ⟨g, off, none⟩ ∧ u.cell? ⟨g, off + k * 2, none⟩ = some (.int .i64 (bl[k].h : Int)) ∧ u.cell? ⟨g, off + k * 2 + 1, none⟩ = some (strV bl[k].l) := fun u hu => by
        obtain ⟨A', c', e', _, ha'⟩ := hu.any
        injection e' with e1 _ _
        subst e1
        exact ha'.at_ hlt
      obtain ⟨g, off, rfl, cc0, cc1⟩ := HH _ G.out.2.2.1
      have HC : Hid (∀ u, OwnH u B (.slice (some ⟨g, off, none⟩) bl.length c) bl → u.cell? ⟨g, off + k * 2, none⟩ = some (.int .i64 (bl[k].h : Int)) ∧ u.cell? ⟨g, off + k * 2 + 1, none⟩ = some (.string (strB bl[k].l))) := fun u hu => by
        obtain ⟨g', off', e, x1, x2⟩ := HH u hu
        cases e
        exact ⟨x1, x2⟩
      clear HH cc0 cc1
      generalize bl[k].h = hd at *
      generalize bl[k].parts = pts at *
      generalize bl[k].l = lb at *
      have RD := Lib.hid (bread_all B wr p n f G.out.1 hd pts lb TH.out)
      unfold sto strV at RD
      have c0 := (HC.out wr G.out.2.2.1).1
      go_wp2_with fail
      refine RD.out.mono ?_
      rintro e w2 ⟨rfl, m2, k2⟩
      have O2 := Lib.hid (G.out.2.2.1.kp k2)
      have K2 := Lib.hid k2
      have SZ := Lib.hid (bsize_all B w2 p n f m2 hd pts lb TH.out)
      unfold sto at SZ
      have c2 := (HC.out w2 O2.out).1
      clear RD m2 k2 c0
      go_wp2_with fail
      refine SZ.out.mono ?_
      rintro e w3 ⟨rfl, m3, k3⟩
      have K3 := Lib.hid (K2.out.trans k3)
      have O3 := Lib.hid (O2.out.kp k3)
      have BK := Lib.hid (bblocks_all B w3 p n f m3 hd pts lb TH.out)
      unfold sto at BK
      have c3 := (HC.out w3 O3.out).1
      clear SZ m3 k3 c2
      go_wp2_with fail
      refine BK.out.mono ?_
      rintro e w4 ⟨A4, m4, cp4, hm4, rfl, i4, mm4, k4⟩
      have K4 := Lib.hid (K3.out.trans k4)
      have O4 := Lib.hid (O3.out.kp k4)
      have I4 := Lib.hid i4
      have MM4 := Lib.hid mm4
      have SE4 := Lib.hid (K4.out.held G.out.2.2.2 (by decide) (by decide))
      have LM := Lib.hid hm4
      have ml : m4 = needL lb.length := by rw [hm4, LN.out]
      have c5 := (HC.out w4 O4.out).2
      have NE := Lib.hid (needs_any w4 lb (by omega))
      have sz := strB_size lb
      unfold strV at NE
      rw [← ml] at NE
      clear BK hm4 i4 mm4 k4 c3 ml
      go_wp2_with fail
      refine NE.out.mono ?_
      rintro e w5 ⟨rfl, rfl⟩
      clear NE c5
      go_wp2_with fail
      obtain ⟨bs, hbs⟩ : ∃ bs, bs = allB hd pts := ⟨_, rfl⟩
      rw [← hbs] at LM I4 FR SB MI
      have LB := LM.out
      subst LB
      have l97 := MI.out.2.2.2
      clear hbs LM
      have KW := Lib.hid (G.out.2.1.trans K4.out)
      go_loopw [13] (fun i wi => ∃ j : Nat, j ≤ bs.length ∧ i = .int .i64 j ∧ Hid (MemAt B wi p n f ∧ Kp B w wi ∧ OwnH wi B (.slice (some ⟨g, off, none⟩) bl.length c) bl ∧ IntsAt wi A4 bs ∧ Held wi gs 4 (seenC (seenB bl k ++ bs.take j)))) (fun i _ => bs.length - (intOf i).toNat)
      case atStart => exact ⟨0, by omega, rfl, MM4.out, KW.out, O4.out, I4.out, by rw [List.take_zero, List.append_nil]; exact SE4.out⟩
      case round =>
        obtain ⟨j, hj, rfl, J⟩ := hrel
        by_cases hjt : j < bs.length
        · obtain ⟨g4, off4, rfl, cj⟩ := J.out.2.2.2.1.cell hjt
          rw [getD_of hjt] at cj
          obtain ⟨x1, x2, _⟩ := MI.out.1 bs[j] (List.getElem_mem hjt)
          have xn : bs[j] ∉ seenB bl k ++ bs.take j := by
            rw [List.mem_append, not_or]
            refine ⟨FR.out _ (List.getElem_mem hjt), fun hm => ?_⟩
            obtain ⟨q, hq, e⟩ := List.mem_iff_getElem.1 hm
            rw [List.length_take] at hq
            rw [List.getElem_take] at e
            have := List.pairwise_iff_getElem.1 MI.out.2.1 q j (by omega) hjt (by omega)
            omega
          have sx : (seenC (seenB bl k ++ bs.take j))[bs[j]]? = some (.bool false) := by
            rw [seenC_at _ _ (by omega), decide_eq_false xn]
          have cs := (J.out.2.2.2.2.cell bs[j]).trans sx
          have zs := J.out.2.2.2.2.frozen bs[j]
          have tk : bs.take (j + 1) = bs.take j ++ [bs[j]] := List.take_succ_eq_append_getElem hjt
          have DD : Below wr.heap.size wr wr.drew := (Below.refl _ _).drew
          have JD : Hid (MemAt B wr.drew p n f ∧ Kp B w wr.drew ∧ OwnH wr.drew B (.slice (some ⟨g, off, none⟩) bl.length c) bl ∧ IntsAt wr.drew (some ⟨g4, off4, none⟩) bs ∧ Held wr.drew gs 4 (seenC (seenB bl k ++ bs.take j))) := ⟨J.out.1.under DD, J.out.2.1.trans (Kp.under DD), J.out.2.2.1.kp (Kp.under (B := B) DD), J.out.2.2.2.1.below DD, J.out.2.2.2.2.drew⟩
          have S2 : Hid (Held (wr.drew.setCell ⟨gs, bs[j], none⟩ (.bool true)) gs 4 (seenC (seenB bl k ++ bs.take (j + 1)))) := by
            have := JD.out.2.2.2.2.set_ bs[j] (.bool true)
            rw [seenC_set] at this
            rw [tk, ← List.append_assoc]
            exact this
          have lj : (j : Int) < (bs.length : Int) := by omega
          have NG : Hid (w.heap.size ≤ gs) := by rw [HGS.out]; exact Nat.le_refl _
          have W6 : Hid (MemAt B (wr.drew.setCell ⟨gs, bs[j], none⟩ (.bool true)) p n f ∧ Kp B w (wr.drew.setCell ⟨gs, bs[j], none⟩ (.bool true)) ∧ OwnH (wr.drew.setCell ⟨gs, bs[j], none⟩ (.bool true)) B (.slice (some ⟨g, off, none⟩) bl.length c) bl ∧ IntsAt (wr.drew.setCell ⟨gs, bs[j], none⟩ (.bool true)) (some ⟨g4, off4, none⟩) bs) :=
            ⟨JD.out.1.set_ JD.out.2.2.2.2 (by decide) (by decide) (by decide) _ _, JD.out.2.1.new_ NG.out _ _, ownsRow_far (p := ⟨gs, bs[j], none⟩) JD.out.2.2.1 (fun q hq => Held.ne_row JD.out.2.2.2.2 JD.out.2.2.1 (by decide) q hq) _, JD.out.2.2.2.1.set_ JD.out.2.2.2.2 (by decide) _ _⟩
          have PV : j = 0 ∨ ∃ y : Nat, wr.cell? ⟨g4, off4 + (j - 1), none⟩ = some (.int .i64 (y : Int)) ∧ y < bs[j] ∧ 0 < j := by
            rcases Nat.eq_zero_or_pos j with h | h
            · exact .inl h
            · obtain ⟨g', off', e, cc⟩ := J.out.2.2.2.1.cell (i := j - 1) (by omega)
              cases e
              rw [getD_of (by omega)] at cc
              exact .inr ⟨_, cc, List.pairwise_iff_getElem.1 MI.out.2.1 (j - 1) j (by omega) hjt (by omega), h⟩
          clear DD
          generalize bs[j] = x at *
          have a1 : ¬ (x : Int) < 1 := by omega
          have a2 : ¬ (4096 : Int) < (x : Int) := by omega
          have a3 : (x : Int) < 4098 := by omega
          have a4 : (0 : Int) ≤ (x : Int) := by omega
          clear xn sx tk x1 x2
          rcases PV with rfl | ⟨y, cy, hy, hj0⟩
          · rw [Nat.add_zero] at cj
            have l0 : (0 : Int) < (bs.length : Int) := by omega
            clear lj
            go_upto_region 13 with fail
            refine wp_region_noPanic ?_
            refine wp_region_held_drew (S := fun w' => w'.cell? ⟨g4, off4, none⟩ = some (.int .i64 (x : Int)) ∧ w'.cell? ⟨gs, x, none⟩ = some (.bool false)) (by kernel_rfl) ⟨cj, cs⟩ (fun hHeld => ?_)
            refine take_ (i := 0) (v := ?_) 92 rfl rfl (by kernel_rfl) (by kernel_rfl) (by kernel_rfl) (fun _ _ _ h => h) (Or.inl ⟨by rfl, ?_⟩) (by assumption) ?_
            rotate_left
            · (intro wS hSw; (try dsimp only at hSw); go_simp; try with_reducible rfl)
            simp only [Act.put, List.setIfInBounds_toArray, List.set_cons_zero, List.set_cons_succ]
            refine take_ (i := 1) (v := ?_) 93 rfl rfl (by kernel_rfl) (by kernel_rfl) (by kernel_rfl) (fun _ _ _ h => h) (Or.inl ⟨by rfl, ?_⟩) (by assumption) ?_
            rotate_left
            · (intro wS hSw; (try dsimp only at hSw); go_simp; try with_reducible rfl)
            simp only [Act.put, List.setIfInBounds_toArray, List.set_cons_zero, List.set_cons_succ]
            refine take_ (i := 2) (v := ?_) 94 rfl rfl (by kernel_rfl) (by kernel_rfl) (by kernel_rfl) (fun _ _ _ h => h) (Or.inl ⟨by rfl, ?_⟩) (by assumption) ?_
            rotate_left
            · (intro wS hSw; (try dsimp only at hSw); go_simp; try with_reducible rfl)
            simp only [Act.put, List.setIfInBounds_toArray, List.set_cons_zero, List.set_cons_succ]
            refine take_ (i := 3) (v := ?_) 95 rfl rfl (by kernel_rfl) (by kernel_rfl) (by kernel_rfl) (fun _ _ _ h => h) (Or.inl ⟨by rfl, ?_⟩) (by assumption) ?_
            rotate_left
            · (intro wS hSw; (try dsimp only at hSw); go_simp; try with_reducible rfl)
            simp only [Act.put, List.setIfInBounds_toArray, List.set_cons_zero, List.set_cons_succ]
            refine take_ (i := 4) (v := ?_) 96 rfl rfl (by kernel_rfl) (by kernel_rfl) (by kernel_rfl) (fun _ _ _ h => h) (Or.inl ⟨by rfl, ?_⟩) (by assumption) ?_
            rotate_left
            · (intro wS hSw; (try dsimp only at hSw); go_simp; try with_reducible rfl)
            simp only [Act.put, List.setIfInBounds_toArray, List.set_cons_zero, List.set_cons_succ]
            refine take_ (i := 5) (v := ?_) 97 rfl rfl (by kernel_rfl) (by kernel_rfl) (by kernel_rfl) (fun _ _ _ h => h) (Or.inl ⟨by rfl, ?_⟩) (by assumption) ?_
            rotate_left
            · (intro wS hSw; (try dsimp only at hSw); go_simp; try with_reducible rfl)
            simp only [Act.put, List.setIfInBounds_toArray, List.set_cons_zero, List.set_cons_succ]
            refine take_ (i := 6) (v := ?_) 98 rfl rfl (by kernel_rfl) (by kernel_rfl) (by kernel_rfl) (fun _ _ _ h => h) (Or.inl ⟨by rfl, ?_⟩) (by assumption) ?_
            rotate_left
            · (intro wS hSw; (try dsimp only at hSw); go_simp; try with_reducible rfl)
            simp only [Act.put, List.setIfInBounds_toArray, List.set_cons_zero, List.set_cons_succ]
            refine take_ (i := 7) (v := ?_) 99 rfl rfl (by kernel_rfl) (by kernel_rfl) (by kernel_rfl) (fun _ _ _ h => h) (Or.inl ⟨by rfl, ?_⟩) (by assumption) ?_
            rotate_left
            · (intro wS hSw; (try dsimp only at hSw); go_simp; try with_reducible rfl)
            simp only [Act.put, List.setIfInBounds_toArray, List.set_cons_zero, List.set_cons_succ]
            refine take_ (i := 8) (v := ?_) 100 rfl rfl (by kernel_rfl) (by kernel_rfl) (by kernel_rfl) (fun _ _ _ h => h) (Or.inl ⟨by rfl, ?_⟩) (by assumption) ?_
            rotate_left
            · (intro wS hSw; (try dsimp only at hSw); go_simp; try with_reducible rfl)
            simp only [Act.put, List.setIfInBounds_toArray, List.set_cons_zero, List.set_cons_succ]
            refine take_ (i := 9) (v := ?_) 101 rfl rfl (by kernel_rfl) (by kernel_rfl) (by kernel_rfl) (fun _ _ _ h => h) (Or.inl ⟨by rfl, ?_⟩) (by assumption) ?_
            rotate_left
            · (intro wS hSw; (try dsimp only at hSw); go_simp; try with_reducible rfl)
            simp only [Act.put, List.setIfInBounds_toArray, List.set_cons_zero, List.set_cons_succ]
            refine take_ (i := 10) (v := ?_) 102 rfl rfl (by kernel_rfl) (by kernel_rfl) (by kernel_rfl) (fun _ _ _ h => h) (Or.inl ⟨by rfl, ?_⟩) (by assumption) ?_
            rotate_left
            · (intro wS hSw; (try dsimp only at hSw); go_simp; try with_reducible rfl)
            simp only [Act.put, List.setIfInBounds_toArray, List.set_cons_zero, List.set_cons_succ]
            refine take_ (i := 11) (v := ?_) 103 rfl rfl (by kernel_rfl) (by kernel_rfl) (by kernel_rfl) (fun _ _ _ h => h) (Or.inl ⟨by rfl, ?_⟩) (by assumption) ?_
            rotate_left
            · (intro wS hSw; (try dsimp only at hSw); go_simp; try with_reducible rfl)
            simp only [Act.put, List.setIfInBounds_toArray, List.set_cons_zero, List.set_cons_succ]
            refine take_ (i := 12) (v := ?_) 104 rfl rfl (by kernel_rfl) (by kernel_rfl) (by kernel_rfl) (fun _ _ _ h => h) (Or.inl ⟨by rfl, ?_⟩) (by assumption) ?_
            rotate_left
            · (intro wS hSw; (try dsimp only at hSw); go_simp; try with_reducible rfl)
            simp only [Act.put, List.setIfInBounds_toArray, List.set_cons_zero, List.set_cons_succ]
            refine take_ (i := 13) (v := ?_) 105 rfl rfl (by kernel_rfl) (by kernel_rfl) (by kernel_rfl) (fun _ _ _ h => h) (Or.inl ⟨by rfl, ?_⟩) (by assumption) ?_
            rotate_left
            · (intro wS hSw; (try dsimp only at hSw); go_simp; try with_reducible rfl)
            simp only [Act.put, List.setIfInBounds_toArray, List.set_cons_zero, List.set_cons_succ]
            refine take_ (i := 14) (v := ?_) 106 rfl rfl (by kernel_rfl) (by kernel_rfl) (by kernel_rfl) (fun _ _ _ h => h) (Or.inl ⟨by rfl, ?_⟩) (by assumption) ?_
            rotate_left
            · (intro wS hSw; (try dsimp only at hSw); go_simp; try with_reducible rfl)
            simp only [Act.put, List.setIfInBounds_toArray, List.set_cons_zero, List.set_cons_succ]
            refine take_ (i := 15) (v := ?_) 107 rfl rfl (by kernel_rfl) (by kernel_rfl) (by kernel_rfl) (fun _ _ _ h => h) (Or.inl ⟨by rfl, ?_⟩) (by assumption) ?_
            rotate_left
            · (intro wS hSw; (try dsimp only at hSw); go_simp; try with_reducible rfl)
            simp only [Act.put, List.setIfInBounds_toArray, List.set_cons_zero, List.set_cons_succ]
            refine take_ (i := 16) (v := ?_) 108 rfl rfl (by kernel_rfl) (by kernel_rfl) (by kernel_rfl) (fun _ _ _ h => h) (Or.inl ⟨by rfl, ?_⟩) (by assumption) ?_
            rotate_left
            · (intro wS hSw; (try dsimp only at hSw); go_simp; try with_reducible rfl)
            simp only [Act.put, List.setIfInBounds_toArray, List.set_cons_zero, List.set_cons_succ]
            refine take_ (i := 17) (v := ?_) 109 rfl rfl (by kernel_rfl) (by kernel_rfl) (by kernel_rfl) (fun _ _ _ h => h) (Or.inl ⟨by rfl, ?_⟩) (by assumption) ?_
            rotate_left
            · (intro wS hSw; (try dsimp only at hSw); go_simp; try with_reducible rfl)
            simp only [Act.put, List.setIfInBounds_toArray, List.set_cons_zero, List.set_cons_succ]
            refine take_ (i := 18) (v := ?_) 110 rfl rfl (by kernel_rfl) (by kernel_rfl) (by kernel_rfl) (fun _ _ _ h => h) (Or.inl ⟨by rfl, ?_⟩) (by assumption) ?_
            rotate_left
            · (intro wS hSw; (try dsimp only at hSw); go_simp; try with_reducible rfl)
            simp only [Act.put, List.setIfInBounds_toArray, List.set_cons_zero, List.set_cons_succ]
            refine take_ (i := 19) (v := ?_) 111 rfl rfl (by kernel_rfl) (by kernel_rfl) (by kernel_rfl) (fun _ _ _ h => h) (Or.inl ⟨by rfl, ?_⟩) (by assumption) ?_
            rotate_left
            · (intro wS hSw; (try dsimp only at hSw); go_simp; try with_reducible rfl)
            simp only [Act.put, List.setIfInBounds_toArray, List.set_cons_zero, List.set_cons_succ]
            refine take_ (i := 20) (v := ?_) 112 rfl rfl (by kernel_rfl) (by kernel_rfl) (by kernel_rfl) (fun _ _ _ h => h) (Or.inl ⟨by rfl, ?_⟩) (by assumption) ?_
            rotate_left
            · (intro wS hSw; (try dsimp only at hSw); go_simp; try with_reducible rfl)
            simp only [Act.put, List.setIfInBounds_toArray, List.set_cons_zero, List.set_cons_succ]
            refine take_ (i := 21) (v := ?_) 113 rfl rfl (by kernel_rfl) (by kernel_rfl) (by kernel_rfl) (fun _ _ _ h => h) (Or.inl ⟨by rfl, ?_⟩) (by assumption) ?_
            rotate_left
            · (intro wS hSw; (try dsimp only at hSw); go_simp; try with_reducible rfl)
            simp only [Act.put, List.setIfInBounds_toArray, List.set_cons_zero, List.set_cons_succ]
            refine take_ (i := 22) (v := ?_) 114 rfl rfl (by kernel_rfl) (by kernel_rfl) (by kernel_rfl) (fun _ _ _ h => h) (Or.inl ⟨by rfl, ?_⟩) (by assumption) ?_
            rotate_left
            · (intro wS hSw; (try dsimp only at hSw); go_simp; try with_reducible rfl)
            simp only [Act.put, List.setIfInBounds_toArray, List.set_cons_zero, List.set_cons_succ]
            refine take_ (i := 23) (v := ?_) 115 rfl rfl (by kernel_rfl) (by kernel_rfl) (by kernel_rfl) (fun _ _ _ h => h) (Or.inl ⟨by rfl, ?_⟩) (by assumption) ?_
            rotate_left
            · (intro wS hSw; (try dsimp only at hSw); go_simp; try with_reducible rfl)
            simp only [Act.put, List.setIfInBounds_toArray, List.set_cons_zero, List.set_cons_succ]
            refine take_ (i := 24) (v := ?_) 116 rfl rfl (by kernel_rfl) (by kernel_rfl) (by kernel_rfl) (fun _ _ _ h => h) (Or.inl ⟨by rfl, ?_⟩) (by assumption) ?_
            rotate_left
            · (intro wS hSw; (try dsimp only at hSw); go_simp; try with_reducible rfl)
            simp only [Act.put, List.setIfInBounds_toArray, List.set_cons_zero, List.set_cons_succ]
            refine take_ (i := 25) (v := undef) 117 rfl rfl (by kernel_rfl) (by kernel_rfl) (by kernel_rfl) (fun _ _ _ h => h) (Or.inr ⟨by rfl, rfl⟩) (by assumption) ?_
            simp only [Act.put, List.setIfInBounds_toArray, List.set_cons_zero, List.set_cons_succ]
            refine take_ (i := 26) (v := undef) 118 rfl rfl (by kernel_rfl) (by kernel_rfl) (by kernel_rfl) (fun _ _ _ h => h) (Or.inr ⟨by rfl, rfl⟩) (by assumption) ?_
            simp only [Act.put, List.setIfInBounds_toArray, List.set_cons_zero, List.set_cons_succ]
            refine take_ (i := 27) (v := undef) 119 rfl rfl (by kernel_rfl) (by kernel_rfl) (by kernel_rfl) (fun _ _ _ h => h) (Or.inr ⟨by rfl, rfl⟩) (by assumption) ?_
            simp only [Act.put, List.setIfInBounds_toArray, List.set_cons_zero, List.set_cons_succ]
            refine take_ (i := 28) (v := undef) 120 rfl rfl (by kernel_rfl) (by kernel_rfl) (by kernel_rfl) (fun _ _ _ h => h) (Or.inr ⟨by rfl, rfl⟩) (by assumption) ?_
            simp only [Act.put, List.setIfInBounds_toArray, List.set_cons_zero, List.set_cons_succ]
            refine take_ (i := 29) (v := undef) 121 rfl rfl (by kernel_rfl) (by kernel_rfl) (by kernel_rfl) (fun _ _ _ h => h) (Or.inr ⟨by rfl, rfl⟩) (by assumption) ?_
            simp only [Act.put, List.setIfInBounds_toArray, List.set_cons_zero, List.set_cons_succ]
            refine take_ (i := 30) (v := undef) 122 rfl rfl (by kernel_rfl) (by kernel_rfl) (by kernel_rfl) (fun _ _ _ h => h) (Or.inr ⟨by rfl, rfl⟩) (by assumption) ?_
            simp only [Act.put, List.setIfInBounds_toArray, List.set_cons_zero, List.set_cons_succ]
            refine take_ (i := 31) (v := undef) 123 rfl rfl (by kernel_rfl) (by kernel_rfl) (by kernel_rfl) (fun _ _ _ h => h) (Or.inr ⟨by rfl, rfl⟩) (by assumption) ?_
            simp only [Act.put, List.setIfInBounds_toArray, List.set_cons_zero, List.set_cons_succ]
            refine take_ (i := 32) (v := undef) 124 rfl rfl (by kernel_rfl) (by kernel_rfl) (by kernel_rfl) (fun _ _ _ h => h) (Or.inr ⟨by rfl, rfl⟩) (by assumption) ?_
            simp only [Act.put, List.setIfInBounds_toArray, List.set_cons_zero, List.set_cons_succ]
            refine take_ (i := 33) (v := undef) 125 rfl rfl (by kernel_rfl) (by kernel_rfl) (by kernel_rfl) (fun _ _ _ h => h) (Or.inr ⟨by rfl, rfl⟩) (by assumption) ?_
            simp only [Act.put, List.setIfInBounds_toArray, List.set_cons_zero, List.set_cons_succ]
            refine take_ (i := 34) (v := undef) 126 rfl rfl (by kernel_rfl) (by kernel_rfl) (by kernel_rfl) (fun _ _ _ h => h) (Or.inr ⟨by rfl, rfl⟩) (by assumption) ?_
            simp only [Act.put, List.setIfInBounds_toArray, List.set_cons_zero, List.set_cons_succ]
            refine take_ (i := 35) (v := ?_) 127 rfl rfl (by kernel_rfl) (by kernel_rfl) (by kernel_rfl) (fun _ _ _ h => h) (Or.inl ⟨by rfl, ?_⟩) (by assumption) ?_
            rotate_left
            · (intro wS hSw; (try dsimp only at hSw); go_simp; try with_reducible rfl)
            simp only [Act.put, List.setIfInBounds_toArray, List.set_cons_zero, List.set_cons_succ]
            refine take_ (i := 36) (v := ?_) 128 rfl rfl (by kernel_rfl) (by kernel_rfl) (by kernel_rfl) (fun _ _ _ h => h) (Or.inl ⟨by rfl, ?_⟩) (by assumption) ?_
            rotate_left
            · (intro wS hSw; (try dsimp only at hSw); go_simp; try with_reducible rfl)
            simp only [Act.put, List.setIfInBounds_toArray, List.set_cons_zero, List.set_cons_succ]
            refine wpAnyH_done (by kernel_rfl) ?_ _
            refine NoPanic.normal ?_
            have cs2 : wr.drew.cell? ⟨gs, x, none⟩ = some (.bool false) := cs
            have zs2 : wr.drew.frozen? ⟨gs, x, none⟩ = false := zs
            have cj2 : wr.drew.cell? ⟨g4, off4, none⟩ = some (.int .i64 (x : Int)) := cj
            clear hHeld cs zs cj
            go_wp2_with fail
            go_roundw
            case rel => exact ⟨0 + 1, by omega, by go_num, W6.out.1, W6.out.2.1, W6.out.2.2.1, W6.out.2.2.2, S2.out⟩
            case measure => simp [intOf] <;> omega
          · obtain ⟨q, hq⟩ : ∃ q, q = j - 1 := ⟨_, rfl⟩
            rw [← hq] at cy
            have jm : (j : Int) - 1 = (q : Int) := by omega
            have wq : IntKind.i64.wrap (q : Int) = (q : Int) := by rw [IntKind.wrap_i64]; omega
            have wq2 : IntKind.i64.wrap ((j : Int) - 1) = (q : Int) := by rw [IntKind.wrap_i64]; omega
            have q0 : (0 : Int) ≤ (q : Int) := by omega
            have lq : (q : Int) < (bs.length : Int) := by omega
            have a5 : ¬ (x : Int) ≤ (y : Int) := by omega
            have a6 : (0 : Int) < (j : Int) := by omega
            clear hq
            go_upto_region 13 with fail
            refine wp_region_noPanic ?_
            refine wp_region_held_drew (S := fun w' => w'.cell? ⟨g4, off4 + j, none⟩ = some (.int .i64 (x : Int)) ∧ w'.cell? ⟨gs, x, none⟩ = some (.bool false) ∧ w'.cell? ⟨g4, off4 + q, none⟩ = some (.int .i64 (y : Int))) (by kernel_rfl) ⟨cj, cs, cy⟩ (fun hHeld => ?_)
            refine take_ (i := 0) (v := ?_) 92 rfl rfl (by kernel_rfl) (by kernel_rfl) (by kernel_rfl) (fun _ _ _ h => h) (Or.inl ⟨by rfl, ?_⟩) (by assumption) ?_
            rotate_left
            · (intro wS hSw; (try dsimp only at hSw); go_simp; try with_reducible rfl)
            simp only [Act.put, List.setIfInBounds_toArray, List.set_cons_zero, List.set_cons_succ]
            refine take_ (i := 1) (v := ?_) 93 rfl rfl (by kernel_rfl) (by kernel_rfl) (by kernel_rfl) (fun _ _ _ h => h) (Or.inl ⟨by rfl, ?_⟩) (by assumption) ?_
            rotate_left
            · (intro wS hSw; (try dsimp only at hSw); go_simp; try with_reducible rfl)
            simp only [Act.put, List.setIfInBounds_toArray, List.set_cons_zero, List.set_cons_succ]
            refine take_ (i := 2) (v := ?_) 94 rfl rfl (by kernel_rfl) (by kernel_rfl) (by kernel_rfl) (fun _ _ _ h => h) (Or.inl ⟨by rfl, ?_⟩) (by assumption) ?_
            rotate_left
            · (intro wS hSw; (try dsimp only at hSw); go_simp; try with_reducible rfl)
            simp only [Act.put, List.setIfInBounds_toArray, List.set_cons_zero, List.set_cons_succ]
            refine take_ (i := 3) (v := ?_) 95 rfl rfl (by kernel_rfl) (by kernel_rfl) (by kernel_rfl) (fun _ _ _ h => h) (Or.inl ⟨by rfl, ?_⟩) (by assumption) ?_
            rotate_left
            · (intro wS hSw; (try dsimp only at hSw); go_simp; try with_reducible rfl)
            simp only [Act.put, List.setIfInBounds_toArray, List.set_cons_zero, List.set_cons_succ]
            refine take_ (i := 4) (v := ?_) 96 rfl rfl (by kernel_rfl) (by kernel_rfl) (by kernel_rfl) (fun _ _ _ h => h) (Or.inl ⟨by rfl, ?_⟩) (by assumption) ?_
            rotate_left
            · (intro wS hSw; (try dsimp only at hSw); go_simp; try with_reducible rfl)
            simp only [Act.put, List.setIfInBounds_toArray, List.set_cons_zero, List.set_cons_succ]
            refine take_ (i := 5) (v := ?_) 97 rfl rfl (by kernel_rfl) (by kernel_rfl) (by kernel_rfl) (fun _ _ _ h => h) (Or.inl ⟨by rfl, ?_⟩) (by assumption) ?_
            rotate_left
            · (intro wS hSw; (try dsimp only at hSw); go_simp; try with_reducible rfl)
            simp only [Act.put, List.setIfInBounds_toArray, List.set_cons_zero, List.set_cons_succ]
            refine take_ (i := 6) (v := ?_) 98 rfl rfl (by kernel_rfl) (by kernel_rfl) (by kernel_rfl) (fun _ _ _ h => h) (Or.inl ⟨by rfl, ?_⟩) (by assumption) ?_
            rotate_left
            · (intro wS hSw; (try dsimp only at hSw); go_simp; try with_reducible rfl)
            simp only [Act.put, List.setIfInBounds_toArray, List.set_cons_zero, List.set_cons_succ]
            refine take_ (i := 7) (v := ?_) 99 rfl rfl (by kernel_rfl) (by kernel_rfl) (by kernel_rfl) (fun _ _ _ h => h) (Or.inl ⟨by rfl, ?_⟩) (by assumption) ?_
            rotate_left
            · (intro wS hSw; (try dsimp only at hSw); go_simp; try with_reducible rfl)
            simp only [Act.put, List.setIfInBounds_toArray, List.set_cons_zero, List.set_cons_succ]
            refine take_ (i := 8) (v := ?_) 100 rfl rfl (by kernel_rfl) (by kernel_rfl) (by kernel_rfl) (fun _ _ _ h => h) (Or.inl ⟨by rfl, ?_⟩) (by assumption) ?_
            rotate_left
            · (intro wS hSw; (try dsimp only at hSw); go_simp; try with_reducible rfl)
            simp only [Act.put, List.setIfInBounds_toArray, List.set_cons_zero, List.set_cons_succ]
            refine take_ (i := 9) (v := ?_) 101 rfl rfl (by kernel_rfl) (by kernel_rfl) (by kernel_rfl) (fun _ _ _ h => h) (Or.inl ⟨by rfl, ?_⟩) (by assumption) ?_
            rotate_left
            · (intro wS hSw; (try dsimp only at hSw); go_simp; try with_reducible rfl)
            simp only [Act.put, List.setIfInBounds_toArray, List.set_cons_zero, List.set_cons_succ]
            refine take_ (i := 10) (v := ?_) 102 rfl rfl (by kernel_rfl) (by kernel_rfl) (by kernel_rfl) (fun _ _ _ h => h) (Or.inl ⟨by rfl, ?_⟩) (by assumption) ?_
            rotate_left
            · (intro wS hSw; (try dsimp only at hSw); go_simp; try with_reducible rfl)
            simp only [Act.put, List.setIfInBounds_toArray, List.set_cons_zero, List.set_cons_succ]
            refine take_ (i := 11) (v := ?_) 103 rfl rfl (by kernel_rfl) (by kernel_rfl) (by kernel_rfl) (fun _ _ _ h => h) (Or.inl ⟨by rfl, ?_⟩) (by assumption) ?_
            rotate_left
            · (intro wS hSw; (try dsimp only at hSw); go_simp; try with_reducible rfl)
            simp only [Act.put, List.setIfInBounds_toArray, List.set_cons_zero, List.set_cons_succ]
            refine take_ (i := 12) (v := ?_) 104 rfl rfl (by kernel_rfl) (by kernel_rfl) (by kernel_rfl) (fun _ _ _ h => h) (Or.inl ⟨by rfl, ?_⟩) (by assumption) ?_
            rotate_left
            · (intro wS hSw; (try dsimp only at hSw); go_simp; try with_reducible rfl)
            simp only [Act.put, List.setIfInBounds_toArray, List.set_cons_zero, List.set_cons_succ]
            refine take_ (i := 13) (v := ?_) 105 rfl rfl (by kernel_rfl) (by kernel_rfl) (by kernel_rfl) (fun _ _ _ h => h) (Or.inl ⟨by rfl, ?_⟩) (by assumption) ?_
            rotate_left
            · (intro wS hSw; (try dsimp only at hSw); go_simp; try with_reducible rfl)
            simp only [Act.put, List.setIfInBounds_toArray, List.set_cons_zero, List.set_cons_succ]
            refine take_ (i := 14) (v := ?_) 106 rfl rfl (by kernel_rfl) (by kernel_rfl) (by kernel_rfl) (fun _ _ _ h => h) (Or.inl ⟨by rfl, ?_⟩) (by assumption) ?_
            rotate_left
            · (intro wS hSw; (try dsimp only at hSw); go_simp; try with_reducible rfl)
            simp only [Act.put, List.setIfInBounds_toArray, List.set_cons_zero, List.set_cons_succ]
            refine take_ (i := 15) (v := ?_) 107 rfl rfl (by kernel_rfl) (by kernel_rfl) (by kernel_rfl) (fun _ _ _ h => h) (Or.inl ⟨by rfl, ?_⟩) (by assumption) ?_
            rotate_left
            · (intro wS hSw; (try dsimp only at hSw); go_simp; try with_reducible rfl)
            simp only [Act.put, List.setIfInBounds_toArray, List.set_cons_zero, List.set_cons_succ]
            refine take_ (i := 16) (v := ?_) 108 rfl rfl (by kernel_rfl) (by kernel_rfl) (by kernel_rfl) (fun _ _ _ h => h) (Or.inl ⟨by rfl, ?_⟩) (by assumption) ?_
            rotate_left
            · (intro wS hSw; (try dsimp only at hSw); go_simp; try with_reducible rfl)
            simp only [Act.put, List.setIfInBounds_toArray, List.set_cons_zero, List.set_cons_succ]
            refine take_ (i := 17) (v := ?_) 109 rfl rfl (by kernel_rfl) (by kernel_rfl) (by kernel_rfl) (fun _ _ _ h => h) (Or.inl ⟨by rfl, ?_⟩) (by assumption) ?_
            rotate_left
            · (intro wS hSw; (try dsimp only at hSw); go_simp; try with_reducible rfl)
            simp only [Act.put, List.setIfInBounds_toArray, List.set_cons_zero, List.set_cons_succ]
            refine take_ (i := 18) (v := ?_) 110 rfl rfl (by kernel_rfl) (by kernel_rfl) (by kernel_rfl) (fun _ _ _ h => h) (Or.inl ⟨by rfl, ?_⟩) (by assumption) ?_
            rotate_left
            · (intro wS hSw; (try dsimp only at hSw); go_simp; try with_reducible rfl)
            simp only [Act.put, List.setIfInBounds_toArray, List.set_cons_zero, List.set_cons_succ]
            refine take_ (i := 19) (v := ?_) 111 rfl rfl (by kernel_rfl) (by kernel_rfl) (by kernel_rfl) (fun _ _ _ h => h) (Or.inl ⟨by rfl, ?_⟩) (by assumption) ?_
            rotate_left
            · (intro wS hSw; (try dsimp only at hSw); go_simp; try with_reducible rfl)
            simp only [Act.put, List.setIfInBounds_toArray, List.set_cons_zero, List.set_cons_succ]
            refine take_ (i := 20) (v := ?_) 112 rfl rfl (by kernel_rfl) (by kernel_rfl) (by kernel_rfl) (fun _ _ _ h => h) (Or.inl ⟨by rfl, ?_⟩) (by assumption) ?_
            rotate_left
            · (intro wS hSw; (try dsimp only at hSw); go_simp; try with_reducible rfl)
            simp only [Act.put, List.setIfInBounds_toArray, List.set_cons_zero, List.set_cons_succ]
            refine take_ (i := 21) (v := ?_) 113 rfl rfl (by kernel_rfl) (by kernel_rfl) (by kernel_rfl) (fun _ _ _ h => h) (Or.inl ⟨by rfl, ?_⟩) (by assumption) ?_
            rotate_left
            · (intro wS hSw; (try dsimp only at hSw); go_simp; try with_reducible rfl)
            simp only [Act.put, List.setIfInBounds_toArray, List.set_cons_zero, List.set_cons_succ]
            refine take_ (i := 22) (v := ?_) 114 rfl rfl (by kernel_rfl) (by kernel_rfl) (by kernel_rfl) (fun _ _ _ h => h) (Or.inl ⟨by rfl, ?_⟩) (by assumption) ?_
            rotate_left
            · (intro wS hSw; (try dsimp only at hSw); go_simp; try with_reducible rfl)
            simp only [Act.put, List.setIfInBounds_toArray, List.set_cons_zero, List.set_cons_succ]
            refine take_ (i := 23) (v := ?_) 115 rfl rfl (by kernel_rfl) (by kernel_rfl) (by kernel_rfl) (fun _ _ _ h => h) (Or.inl ⟨by rfl, ?_⟩) (by assumption) ?_
            rotate_left
            · (intro wS hSw; (try dsimp only at hSw); go_simp; try with_reducible rfl)
            simp only [Act.put, List.setIfInBounds_toArray, List.set_cons_zero, List.set_cons_succ]
            refine take_ (i := 24) (v := ?_) 116 rfl rfl (by kernel_rfl) (by kernel_rfl) (by kernel_rfl) (fun _ _ _ h => h) (Or.inl ⟨by rfl, ?_⟩) (by assumption) ?_
            rotate_left
            · (intro wS hSw; (try dsimp only at hSw); go_simp; try with_reducible rfl)
            simp only [Act.put, List.setIfInBounds_toArray, List.set_cons_zero, List.set_cons_succ]
            refine take_ (i := 25) (v := ?_) 117 rfl rfl (by kernel_rfl) (by kernel_rfl) (by kernel_rfl) (fun _ _ _ h => h) (Or.inl ⟨by rfl, ?_⟩) (by assumption) ?_
            rotate_left
            · (intro wS hSw; (try dsimp only at hSw); go_simp; try with_reducible rfl)
            simp only [Act.put, List.setIfInBounds_toArray, List.set_cons_zero, List.set_cons_succ]
            refine take_ (i := 26) (v := ?_) 118 rfl rfl (by kernel_rfl) (by kernel_rfl) (by kernel_rfl) (fun _ _ _ h => h) (Or.inl ⟨by rfl, ?_⟩) (by assumption) ?_
            rotate_left
            · (intro wS hSw; (try dsimp only at hSw); go_simp; try with_reducible rfl)
            simp only [Act.put, List.setIfInBounds_toArray, List.set_cons_zero, List.set_cons_succ]
            refine take_ (i := 27) (v := ?_) 119 rfl rfl (by kernel_rfl) (by kernel_rfl) (by kernel_rfl) (fun _ _ _ h => h) (Or.inl ⟨by rfl, ?_⟩) (by assumption) ?_
            rotate_left
            · (intro wS hSw; (try dsimp only at hSw); go_simp; try with_reducible rfl)
            simp only [Act.put, List.setIfInBounds_toArray, List.set_cons_zero, List.set_cons_succ]
            refine take_ (i := 28) (v := ?_) 120 rfl rfl (by kernel_rfl) (by kernel_rfl) (by kernel_rfl) (fun _ _ _ h => h) (Or.inl ⟨by rfl, ?_⟩) (by assumption) ?_
            rotate_left
            · (intro wS hSw; (try dsimp only at hSw); go_simp; try with_reducible rfl)
            simp only [Act.put, List.setIfInBounds_toArray, List.set_cons_zero, List.set_cons_succ]
            refine take_ (i := 29) (v := ?_) 121 rfl rfl (by kernel_rfl) (by kernel_rfl) (by kernel_rfl) (fun _ _ _ h => h) (Or.inl ⟨by rfl, ?_⟩) (by assumption) ?_
            rotate_left
            · (intro wS hSw; (try dsimp only at hSw); go_simp; try with_reducible rfl)
            simp only [Act.put, List.setIfInBounds_toArray, List.set_cons_zero, List.set_cons_succ]
            refine take_ (i := 30) (v := ?_) 122 rfl rfl (by kernel_rfl) (by kernel_rfl) (by kernel_rfl) (fun _ _ _ h => h) (Or.inl ⟨by rfl, ?_⟩) (by assumption) ?_
            rotate_left
            · (intro wS hSw; (try dsimp only at hSw); go_simp; try with_reducible rfl)
            simp only [Act.put, List.setIfInBounds_toArray, List.set_cons_zero, List.set_cons_succ]
            refine take_ (i := 31) (v := ?_) 123 rfl rfl (by kernel_rfl) (by kernel_rfl) (by kernel_rfl) (fun _ _ _ h => h) (Or.inl ⟨by rfl, ?_⟩) (by assumption) ?_
            rotate_left
            · (intro wS hSw; (try dsimp only at hSw); go_simp; try with_reducible rfl)
            simp only [Act.put, List.setIfInBounds_toArray, List.set_cons_zero, List.set_cons_succ]
            refine take_ (i := 32) (v := ?_) 124 rfl rfl (by kernel_rfl) (by kernel_rfl) (by kernel_rfl) (fun _ _ _ h => h) (Or.inl ⟨by rfl, ?_⟩) (by assumption) ?_
            rotate_left
            · (intro wS hSw; (try dsimp only at hSw); go_simp; try with_reducible rfl)
            simp only [Act.put, List.setIfInBounds_toArray, List.set_cons_zero, List.set_cons_succ]
            refine take_ (i := 33) (v := ?_) 125 rfl rfl (by kernel_rfl) (by kernel_rfl) (by kernel_rfl) (fun _ _ _ h => h) (Or.inl ⟨by rfl, ?_⟩) (by assumption) ?_
            rotate_left
            · (intro wS hSw; (try dsimp only at hSw); go_simp; try with_reducible rfl)
            simp only [Act.put, List.setIfInBounds_toArray, List.set_cons_zero, List.set_cons_succ]
            refine take_ (i := 34) (v := ?_) 126 rfl rfl (by kernel_rfl) (by kernel_rfl) (by kernel_rfl) (fun _ _ _ h => h) (Or.inl ⟨by rfl, ?_⟩) (by assumption) ?_
            rotate_left
            · (intro wS hSw; (try dsimp only at hSw); go_simp; try with_reducible rfl)
            simp only [Act.put, List.setIfInBounds_toArray, List.set_cons_zero, List.set_cons_succ]
            refine take_ (i := 35) (v := ?_) 127 rfl rfl (by kernel_rfl) (by kernel_rfl) (by kernel_rfl) (fun _ _ _ h => h) (Or.inl ⟨by rfl, ?_⟩) (by assumption) ?_
            rotate_left
            · (intro wS hSw; (try dsimp only at hSw); go_simp; try with_reducible rfl)
            simp only [Act.put, List.setIfInBounds_toArray, List.set_cons_zero, List.set_cons_succ]
            refine take_ (i := 36) (v := ?_) 128 rfl rfl (by kernel_rfl) (by kernel_rfl) (by kernel_rfl) (fun _ _ _ h => h) (Or.inl ⟨by rfl, ?_⟩) (by assumption) ?_
            rotate_left
            · (intro wS hSw; (try dsimp only at hSw); go_simp; try with_reducible rfl)
            simp only [Act.put, List.setIfInBounds_toArray, List.set_cons_zero, List.set_cons_succ]
            refine wpAnyH_done (by kernel_rfl) ?_ _
            refine NoPanic.normal ?_
            have cs2 : wr.drew.cell? ⟨gs, x, none⟩ = some (.bool false) := cs
            have zs2 : wr.drew.frozen? ⟨gs, x, none⟩ = false := zs
            have cj2 : wr.drew.cell? ⟨g4, off4 + j, none⟩ = some (.int .i64 (x : Int)) := cj
            clear hHeld cs zs cj
            go_wp2_with fail
            go_roundw
            case rel => exact ⟨j + 1, by omega, by go_num, W6.out.1, W6.out.2.1, W6.out.2.2.1, W6.out.2.2.2, S2.out⟩
            case measure => simp [intOf] <;> omega
        · obtain rfl : j = bs.length := by omega
          have F : Hid (MemAt B wr p n f ∧ Kp B w wr ∧ OwnH wr B (.slice (some ⟨g, off, none⟩) bl.length c) bl ∧ Held wr gs 4 (seenC (seenB bl (k + 1)))) := by
            have jj := J.out
            rw [List.take_of_length_le (Nat.le_refl _), ← SB.out] at jj
            exact ⟨jj.1, jj.2.1, jj.2.2.1, jj.2.2.2.2⟩
          go_wp2_with fail
          go_roundw
          case rel => exact ⟨k + 1, by omega, by go_num, F⟩
          case measure => simp [intOf] <;> omega
    · obtain rfl : k = bl.length := by omega
      have FIN : Hid (Below B w wr) := G.out.2.1.below hB
      go_wp2_with fail
      go_ret
      exact ⟨rfl, FIN.out⟩
end Go.Proofs.Ytlofpbmceipkkaa
