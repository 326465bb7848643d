/-
  docketref04: the contract of a transaction's Write that is taken. · docketref04: the contract of a transaction's Read. · docketref04: the contract of a transaction's Commit. · docketref04 beside the pager: a transaction's list and what the pager's transaction has written.
-/
import Derived.Test.YtkajneeihhobhaaGreatMPgR
import Derived.Test.YtkajneeihhobhaaGreatMPgZ
namespace Go.Proofs.YtkajneeihhobhaaGreat
open Go.RowKit Go.Maps Wal Pgr

theorem dropB_snoc (L : List (Nat × List Nat)) (p : Nat × List Nat) (b : Int) : dropB (L ++ [p]) b = if (p.1 : Int) ≠ b then dropB L b ++ [p] else dropB L b := by
  unfold dropB
  rw [List.filter_append]
  by_cases h : (p.1 : Int) ≠ b <;> simp [h]
set_option maxRecDepth 100000 in
set_option maxHeartbeats 3200000 in
theorem rtwrite_any (w : World) (base r t bn rg : Nat) (v vL : Value) (L : List (Nat × List Nat)) (b : Nat) (l : List Nat) (h : RTx w base r t bn rg v vL L) (hb : b < bn) (hl : ∀ x ∈ l, x < 256) (hs : l.length ≤ 512) (hL : L.length ≤ 100000) :
    Calls Tryz.prog 34 #[.pointer (some ⟨t, 0, none⟩), .int .i64 (b : Int), .string (strB l)] w fun e w' => ∃ vL', e = .returned (.int .i64 0) ∧ RTx w' w.heap.size r t bn rg v vL' (dropB L (b : Int) ++ [(b, sec l)]) ∧ Only [t] w w' := by
  have t0 : w.cell? ⟨t, 0, none⟩ = some (.pointer (some ⟨r, 0, none⟩)) := h.tx.cell 0
  have r0 : w.cell? ⟨r, 0, none⟩ = some (.int .i64 (bn : Int)) := h.pg.cell 0
  have FU := fun u => Lib.hid (pfull_any u l hl hs)
  obtain ⟨s, hs'⟩ : ∃ s, s = strB l := ⟨_, rfl⟩
  have hsz : s.size ≤ 512 := by rw [hs', strB_size]; exact hs
  rw [← hs'] at FU ⊢
  obtain ⟨A, c, rfl⟩ := pslice h.row
  obtain ⟨n, hn⟩ : ∃ n, n = L.length := ⟨_, rfl⟩
  have HN := Lib.hid hn
  have H := Lib.hid h
  have hb' : (b : Int) < (bn : Int) := by omega
  have hb'' : ¬ bn ≤ b := by omega
  have hs0 : ¬ (512 : Int) < (s.size : Int) := by omega
  have hn4 : (n : Int) ≤ 100000 := by omega
  rw [← hn] at H
  clear h hs' hb hs hL hl hn
  go_enter Tryz.func34, Tryz.ntmps34
  go_wp2_with fail
  clear t0 r0
  go_loopw [7, 8] (fun lv iv wr => ∃ k : Nat, k ≤ n ∧ iv = .int .i64 (k : Nat) ∧ wr.ownsRow w.heap.size 109 2 lv (dropB (L.take k) (b : Int)).length (waitCells (dropB (L.take k) (b : Int))) ∧ Below w.heap.size w wr) (fun _ iv _ => n - (intOf iv).toNat)
  case atStart => exact ⟨0, by omega, rfl, World.ownsRow_nil _ _ _ _, Below.refl _ _⟩
  case round =>
    obtain ⟨k, hk, rfl, hr, hbw⟩ := hrel
    have R := Lib.hid hr
    have BW := Lib.hid hbw
    have HW := Lib.hid (H.out.under hbw)
    have t1 : wr.cell? ⟨t, 1, none⟩ = some (.slice A n c) := HW.out.tx.cell 1
    clear hr hbw
    by_cases hlt : k < n
    · have hlt' : (k : Int) < (n : Int) := by omega
      have hk0 : (0 : Int) ≤ (k : Int) := by omega
      have hkl : k < L.length := by have := HN.out; omega
      obtain ⟨p, hp⟩ : ∃ p, L[k]? = some p := ⟨_, List.getElem?_eq_getElem hkl⟩
      have hrow := HW.out.row
      rw [← HN.out] at hrow
      obtain ⟨g, rfl⟩ : ∃ g, A = some ⟨g, 0, none⟩ := by
        rcases hrow.2 with ⟨h1, _⟩ | ⟨g', cap, cur, h1, _⟩
        · injection h1 with _ h2 _
          omega
        · injection h1 with h1 _ _
          exact ⟨g', h1⟩
      have hc := waitCells_at L k p hp
      have x0 : wr.cell? ⟨g, k * 2, none⟩ = some (.int .i64 (p.1 : Int)) := (hrow.cellAt (k * 2) (by omega)).trans hc.1
      have x1 : wr.cell? ⟨g, k * 2 + 1, none⟩ = some (.string (strB p.2)) := (hrow.cellAt (k * 2 + 1) (by omega)).trans hc.2
      have ET : Hid (dropB (L.take (k + 1)) (b : Int) = if (p.1 : Int) ≠ (b : Int) then dropB (L.take k) (b : Int) ++ [p] else dropB (L.take k) (b : Int)) := by
        show _ = _
        rw [List.take_add_one, hp]
        exact dropB_snoc _ p _
      obtain ⟨D, hD⟩ : ∃ D, D = dropB (L.take k) (b : Int) := ⟨_, rfl⟩
      have hDl : D.length ≤ 100000 := by
        have h1 := dropB_len (L.take k) (b : Int)
        rw [← hD, List.length_take] at h1
        omega
      rw [← hD] at R ET
      clear hkl hp hrow hc hD
      by_cases he : (p.1 : Int) = (b : Int)
      · have E2 : Hid (dropB (L.take (k + 1)) (b : Int) = D) := by show _ = _; rw [ET.out, if_neg (by simpa using he)]
        have hne : ((p.1 : Int) != (b : Int)) = false := by simp [he]
        clear ET
        go_wp2_with fail
        go_roundw
        case rel => exact ⟨k + 1, by omega, by go_num, by rw [E2.out]; exact R.out, BW.out⟩
        case measure => simp [intOf]; omega
      · have E2 : Hid (dropB (L.take (k + 1)) (b : Int) = D ++ [p]) := by show _ = _; rw [ET.out, if_pos he]
        have hne : ((p.1 : Int) != (b : Int)) = true := by simp [he]
        obtain ⟨y, hy⟩ : ∃ y, y = strB p.2 := ⟨_, rfl⟩
        rw [← hy] at x1
        have R1 : Hid ((wr.alloc (.cells #[.int .i64 (p.1 : Int), .string y] 109)).ownsRow w.heap.size 109 2 u7 D.length (waitCells D)) := ((Only.refl [] wr).alloc _).row R.out (fun _ _ hx => by cases hx)
        have HE := Held.new wr 109 #[.int .i64 (p.1 : Int), .string y] rfl
        have QA : Hid ((wr.alloc (.cells #[.int .i64 (p.1 : Int), .string y] 109)).cell? ⟨wr.heap.size, 0, none⟩ = some (.int .i64 (p.1 : Int)) ∧ (wr.alloc (.cells #[.int .i64 (p.1 : Int), .string y] 109)).cell? ⟨wr.heap.size, 1, none⟩ = some (.string (strB p.2))) := ⟨HE.cell 0, by rw [← hy]; exact HE.cell 1⟩
        have LA : Hid (w.heap.size ≤ (wr.alloc (.cells #[.int .i64 (p.1 : Int), .string y] 109)).heap.size) := by show _ ≤ _; rw [World.size_alloc]; have := BW.out.size; omega
        have BA : Hid (Below w.heap.size w (wr.alloc (.cells #[.int .i64 (p.1 : Int), .string y] 109))) := BW.out.alloc BW.out.size _
        clear ET HE hy R
        go_wp2_with (refine wpList_append_put rfl (o := ⟨some 55, _, _, _, _, _⟩) (.tmp 46) (.tmp 54) w.heap.size rfl u7 D.length D rfl R1.out wr.heap.size 1 p rfl QA.out (by omega) LA.out ?_; intro v6 w6 r1 r2 r3)
        have B6 : Hid (Below w.heap.size w w6) := prow_grown R1.out BA.out r2 LA.out
        have RR : Hid (w6.ownsRow w.heap.size 109 2 v6 (dropB (L.take (k + 1)) (b : Int)).length (waitCells (dropB (L.take (k + 1)) (b : Int)))) := by
          rw [E2.out, List.length_append]
          exact r1
        clear r1 r2 r3 R1 QA LA BA x0 x1 t1
        go_wp2_with fail
        go_roundw
        case rel => exact ⟨k + 1, by omega, by go_num, RR.out, B6.out⟩
        case measure => simp [intOf]; omega
    · obtain rfl : k = n := by omega
      have E : Hid (L.take k = L) := by show _ = _; rw [HN.out, List.take_length]
      rw [E.out] at R
      obtain ⟨D, hD⟩ : ∃ D, D = dropB L (b : Int) := ⟨_, rfl⟩
      have HD := Lib.hid hD
      have hDl : D.length ≤ 100000 := by
        have h1 := dropB_len L (b : Int)
        rw [← hD] at h1
        have := HN.out
        omega
      rw [← hD] at R
      have FW := FU wr
      clear FU E hD hlt
      go_wp2_with fail
      refine FW.out.mono ?_
      rintro e w1 ⟨rfl, hb1⟩
      have B1 : Hid (Below w.heap.size w w1) := BW.out.trans (hb1.mono BW.out.size)
      have R1 : Hid (w1.ownsRow w.heap.size 109 2 u7 D.length (waitCells D)) := (Only.of_below (F := []) hb1).row R.out (fun _ _ hx => by cases hx)
      obtain ⟨y, hy⟩ : ∃ y, y = strB (sec l) := ⟨_, rfl⟩
      rw [← hy]
      have RA : Hid ((w1.alloc (.cells #[.int .i64 (b : Int), .string y] 109)).ownsRow w.heap.size 109 2 u7 D.length (waitCells D)) := ((Only.refl [] w1).alloc _).row R1.out (fun _ _ hx => by cases hx)
      have HE := Held.new w1 109 #[.int .i64 (b : Int), .string y] rfl
      have QA : Hid ((w1.alloc (.cells #[.int .i64 (b : Int), .string y] 109)).cell? ⟨w1.heap.size, 0, none⟩ = some (.int .i64 (b : Int)) ∧ (w1.alloc (.cells #[.int .i64 (b : Int), .string y] 109)).cell? ⟨w1.heap.size, 1, none⟩ = some (.string (strB (sec l)))) := ⟨HE.cell 0, by rw [← hy]; exact HE.cell 1⟩
      have LA : Hid (w.heap.size ≤ (w1.alloc (.cells #[.int .i64 (b : Int), .string y] 109)).heap.size) := by show _ ≤ _; rw [World.size_alloc]; have := B1.out.size; omega
      have BA : Hid (Below w.heap.size w (w1.alloc (.cells #[.int .i64 (b : Int), .string y] 109))) := B1.out.alloc B1.out.size _
      clear hb1 FW HE R R1 BW HW t1 hy
      go_wp2_with (refine wpList_append_put rfl (o := ⟨some 63, _, _, _, _, _⟩) (.tmp 57) (.tmp 62) w.heap.size rfl u7 D.length D rfl RA.out w1.heap.size 1 (b, sec l) rfl QA.out (by omega) LA.out ?_; intro v6 w6 r1 r2 r3; have B6 : Hid (Below w.heap.size w w6) := prow_grown RA.out BA.out r2 LA.out; have H6 := Lib.hid (H.out.under B6.out); have t1 := H6.out.tx.cell 1; have t2 := H6.out.tx.frozen 1; obtain ⟨A6, c6, rfl⟩ := pslice r1; have RR := Lib.hid r1; clear r1 r2 r3)
      go_ret
      have ho : Only [t] w6 (w6.setCell ⟨t, 1, none⟩ (.slice A6 (D.length + 1) c6)) := (Only.refl _ _).setCell (.inl (by simp)) _
      refine ⟨_, rfl, ⟨H6.out.pg.only ho (by simpa using H6.out.pg.ne_ H6.out.tx (by decide)), H6.out.tx.set_ 1 _, ?_⟩, (Only.of_below (F := [t]) B6.out).trans ho (fun _ hx => .inl hx)⟩
      have hD := HD.out
      subst hD
      have r1 := RR.out
      rw [List.length_append]
      exact ho.row r1 (fun x hx hm => H6.out.tx.ne_row r1 (by decide) x hx (by simpa using hm))
end Go.Proofs.YtkajneeihhobhaaGreat

namespace Go.Proofs.YtkajneeihhobhaaGreat
open Go.RowKit Go.Maps Wal Pgr

/-- A block, as the document's transaction tells it. -/
def seeL (Ls : List (List (Nat × List Nat))) (L : List (Nat × List Nat)) (b : Int) : List Nat := (findL L b).getD (atL Ls b)
set_option maxRecDepth 100000 in
set_option maxHeartbeats 1600000 in
theorem rtread_bad (w : World) (base r t bn rg : Nat) (v vL : Value) (L : List (Nat × List Nat)) (b : Int) (h : RTx w base r t bn rg v vL L) (hb : ¬ (0 ≤ b ∧ b < (bn : Int))) :
    Calls Tryz.prog 41 #[.pointer (some ⟨t, 0, none⟩), .int .i64 b] w fun e w' => e = .returned (.tuple #[.string ⟨#[]⟩, .int .i64 1]) ∧ w = w' := by
  have t0 : w.cell? ⟨t, 0, none⟩ = some (.pointer (some ⟨r, 0, none⟩)) := h.tx.cell 0
  have r0 : w.cell? ⟨r, 0, none⟩ = some (.int .i64 (bn : Int)) := h.pg.cell 0
  clear h
  by_cases h0 : b < 0
  · go_enter Tryz.func41, Tryz.ntmps41
    go_wp2_with fail
    go_ret2
    exact ⟨rfl, rfl⟩
  · have h1 : (bn : Int) ≤ b := by omega
    go_enter Tryz.func41, Tryz.ntmps41
    go_wp2_with fail
    go_ret2
    exact ⟨rfl, rfl⟩
set_option maxRecDepth 100000 in
set_option maxHeartbeats 3200000 in
theorem rtread_any (w : World) (base base2 r t bn rg : Nat) (v vL : Value) (vs : List Value) (L : List (Nat × List Nat)) (Ls : List (List (Nat × List Nat))) (b : Int) (h : RTx w base r t bn rg v vL L) (hv : PutsAt w base2 v vs Ls) (hb : 0 ≤ b ∧ b < (bn : Int)) (hL : L.length ≤ 100000) (hLs : Ls.length ≤ 5800000000000) :
    Calls Tryz.prog 41 #[.pointer (some ⟨t, 0, none⟩), .int .i64 b] w fun e w' => e = .returned (.tuple #[.string (strB (seeL Ls L b)), .int .i64 0]) ∧ Below w.heap.size w w' := by
  have t0 : w.cell? ⟨t, 0, none⟩ = some (.pointer (some ⟨r, 0, none⟩)) := h.tx.cell 0
  have t1 : w.cell? ⟨t, 1, none⟩ = some vL := h.tx.cell 1
  have r0 : w.cell? ⟨r, 0, none⟩ = some (.int .i64 (bn : Int)) := h.pg.cell 0
  have r2 : w.cell? ⟨r, 2, none⟩ = some v := h.pg.cell 2
  obtain ⟨A, c, rfl⟩ := pslice h.row
  obtain ⟨A2, c2, rfl⟩ := pslice hv.row
  have FI := pfind_any w base A L.length c L b rfl (by omega) h.row
  have FA := Lib.hid (pat_any w.drew r base2 bn rg _ vs Ls b (Ls.length : Int) h.pg (hv.under ((Below.refl _ _).drew)) (by omega) (by omega))
  obtain ⟨hb0, hb1⟩ := hb
  have TL : Hid (t < w.heap.size ∧ r < w.heap.size) := ⟨h.tx.lt, h.pg.lt⟩
  have n4 : (Ls.length : Int) ≤ 5800000000000 := by omega
  obtain ⟨n, hn⟩ : ∃ n, n = L.length := ⟨_, rfl⟩
  obtain ⟨n2, hn2⟩ : ∃ n2, n2 = Ls.length := ⟨_, rfl⟩
  rw [← hn] at t1 FI
  rw [← hn2] at r2 FA n4
  clear h hv hn hn2 hL hLs
  unfold seeL
  cases hf : findL L b with
  | none =>
    rw [hf] at FI
    have FI := Lib.hid FI
    have e0 : strO none = ⟨#[]⟩ := rfl
    rw [show ((none : Option (List Nat)).getD (atL Ls b)) = atL Ls b from rfl]
    clear hf
    go_enter Tryz.func41, Tryz.ntmps41
    go_wp2_with fail
    refine FI.out.mono ?_
    rintro e w1 ⟨rfl, rfl⟩
    clear FI
    go_upto_region 5 with fail
    refine wp_region_noPanic ?_
    refine wp_region_held_drew (S := fun w' => w'.cell? ⟨t, 0, none⟩ = some (.pointer (some ⟨r, 0, none⟩)) ∧ w'.cell? ⟨r, 2, none⟩ = some (.slice A2 n2 c2)) (by kernel_rfl) ⟨t0, r2⟩ (fun hHeld => ?_)
    refine take_ (i := 0) (v := ?_) 32 rfl rfl (by kernel_rfl) (by kernel_rfl) (by kernel_rfl) (fun _ _ _ h => h) (Or.inl ⟨by rfl, ?_⟩) (by assumption) ?_
    rotate_left
    · (intro wS hSw; (try dsimp only at hSw); go_simp; try with_reducible rfl)
    simp only [Act.put, List.setIfInBounds_toArray, List.set_cons_zero, List.set_cons_succ]
    refine take_ (i := 1) (v := ?_) 33 rfl rfl (by kernel_rfl) (by kernel_rfl) (by kernel_rfl) (fun _ _ _ h => h) (Or.inl ⟨by rfl, ?_⟩) (by assumption) ?_
    rotate_left
    · (intro wS hSw; (try dsimp only at hSw); go_simp; try with_reducible rfl)
    simp only [Act.put, List.setIfInBounds_toArray, List.set_cons_zero, List.set_cons_succ]
    refine take_ (i := 2) (v := ?_) 34 rfl rfl (by kernel_rfl) (by kernel_rfl) (by kernel_rfl) (fun _ _ _ h => h) (Or.inl ⟨by rfl, ?_⟩) (by assumption) ?_
    rotate_left
    · (intro wS hSw; (try dsimp only at hSw); go_simp; try with_reducible rfl)
    simp only [Act.put, List.setIfInBounds_toArray, List.set_cons_zero, List.set_cons_succ]
    refine take_ (i := 3) (v := ?_) 35 rfl rfl (by kernel_rfl) (by kernel_rfl) (by kernel_rfl) (fun _ _ _ h => h) (Or.inl ⟨by rfl, ?_⟩) (by assumption) ?_
    rotate_left
    · (intro wS hSw; (try dsimp only at hSw); go_simp; try with_reducible rfl)
    simp only [Act.put, List.setIfInBounds_toArray, List.set_cons_zero, List.set_cons_succ]
    refine take_ (i := 4) (v := ?_) 36 rfl rfl (by kernel_rfl) (by kernel_rfl) (by kernel_rfl) (fun _ _ _ h => h) (Or.inl ⟨by rfl, ?_⟩) (by assumption) ?_
    rotate_left
    · (intro wS hSw; (try dsimp only at hSw); go_simp; try with_reducible rfl)
    simp only [Act.put, List.setIfInBounds_toArray, List.set_cons_zero, List.set_cons_succ]
    refine take_ (i := 5) (v := ?_) 37 rfl rfl (by kernel_rfl) (by kernel_rfl) (by kernel_rfl) (fun _ _ _ h => h) (Or.inl ⟨by rfl, ?_⟩) (by assumption) ?_
    rotate_left
    · (intro wS hSw; (try dsimp only at hSw); go_simp; try with_reducible rfl)
    simp only [Act.put, List.setIfInBounds_toArray, List.set_cons_zero, List.set_cons_succ]
    refine take_ (i := 6) (v := ?_) 38 rfl rfl (by kernel_rfl) (by kernel_rfl) (by kernel_rfl) (fun _ _ _ h => h) (Or.inl ⟨by rfl, ?_⟩) (by assumption) ?_
    rotate_left
    · (intro wS hSw; (try dsimp only at hSw); go_simp; try with_reducible rfl)
    simp only [Act.put, List.setIfInBounds_toArray, List.set_cons_zero, List.set_cons_succ]
    refine take_ (i := 7) (v := ?_) 39 rfl rfl (by kernel_rfl) (by kernel_rfl) (by kernel_rfl) (fun _ _ _ h => h) (Or.inl ⟨by rfl, ?_⟩) (by assumption) ?_
    rotate_left
    · (intro wS hSw; (try dsimp only at hSw); go_simp; try with_reducible rfl)
    simp only [Act.put, List.setIfInBounds_toArray, List.set_cons_zero, List.set_cons_succ]
    refine take_ (i := 8) (v := ?_) 40 rfl rfl (by kernel_rfl) (by kernel_rfl) (by kernel_rfl) (fun _ _ _ h => h) (Or.inl ⟨by rfl, ?_⟩) (by assumption) ?_
    rotate_left
    · (intro wS hSw; (try dsimp only at hSw); go_simp; try with_reducible rfl)
    simp only [Act.put, List.setIfInBounds_toArray, List.set_cons_zero, List.set_cons_succ]
    refine take_ (i := 9) (v := ?_) 41 rfl rfl (by kernel_rfl) (by kernel_rfl) (by kernel_rfl) (fun _ _ _ h => h) (Or.inl ⟨by rfl, ?_⟩) (by assumption) ?_
    rotate_left
    · (intro wS hSw; (try dsimp only at hSw); go_simp; try with_reducible rfl)
    simp only [Act.put, List.setIfInBounds_toArray, List.set_cons_zero, List.set_cons_succ]
    refine take_ (i := 10) (v := ?_) 42 rfl rfl (by kernel_rfl) (by kernel_rfl) (by kernel_rfl) (fun _ _ _ h => h) (Or.inl ⟨by rfl, ?_⟩) (by assumption) ?_
    rotate_left
    · (intro wS hSw; (try dsimp only at hSw); go_simp; try with_reducible rfl)
    simp only [Act.put, List.setIfInBounds_toArray, List.set_cons_zero, List.set_cons_succ]
    refine take_ (i := 11) (v := ?_) 43 rfl rfl (by kernel_rfl) (by kernel_rfl) (by kernel_rfl) (fun _ _ _ h => h) (Or.inl ⟨by rfl, ?_⟩) (by assumption) ?_
    rotate_left
    · (intro wS hSw; (try dsimp only at hSw); go_simp; try with_reducible rfl)
    simp only [Act.put, List.setIfInBounds_toArray, List.set_cons_zero, List.set_cons_succ]
    refine take_ (i := 12) (v := ?_) 44 rfl rfl (by kernel_rfl) (by kernel_rfl) (by kernel_rfl) (fun _ _ _ h => h) (Or.inl ⟨by rfl, ?_⟩) (by assumption) ?_
    rotate_left
    · (intro wS hSw; (try dsimp only at hSw); go_simp; try with_reducible rfl)
    simp only [Act.put, List.setIfInBounds_toArray, List.set_cons_zero, List.set_cons_succ]
    refine one_ (i := 13) _ (by kernel_rfl) rfl (fun K hK => ?_)
    go_simp
    refine FA.out.mono ?_
    rintro e w2 ⟨rfl, hB⟩
    have RES : Hid (Below w.heap.size w w2) := (Below.refl _ _).drew.trans hB
    have t0' : w2.cell? ⟨t, 0, none⟩ = some (.pointer (some ⟨r, 0, none⟩)) := (hB.cell (p := ⟨t, 0, none⟩) TL.out.1).trans t0
    have r2' : w2.cell? ⟨r, 2, none⟩ = some (.slice A2 n2 c2) := (hB.cell (p := ⟨r, 2, none⟩) TL.out.2).trans r2
    clear hB FA hHeld

    go_wp2_with fail
    refine hK.out _ _ ⟨t0', r2'⟩ (fun hHeld => ?_)
    clear hK K
    refine one_ (i := 14) _ (by kernel_rfl) rfl (fun K hK => ?_)
    go_simp
    refine hK.out _ _ ⟨t0', r2'⟩ (fun hHeld => ?_)
    clear hK K
    refine wpAnyH_done (by kernel_rfl) ?_ _
    refine NoPanic.normal ?_
    clear t0 t1 r0 r2 t0' r2'
    go_wp2_with fail
    go_ret2
    exact ⟨rfl, RES.out⟩
  | some z =>
    rw [hf] at FI
    have FI := Lib.hid FI
    rw [show ((some z : Option (List Nat)).getD (atL Ls b)) = z from rfl]
    clear hf FA
    go_enter Tryz.func41, Tryz.ntmps41
    go_wp2_with fail
    refine FI.out.mono ?_
    rintro e w1 ⟨rfl, rfl⟩
    clear FI
    go_wp2_with fail
    go_ret2
    exact ⟨rfl, Below.refl _ _⟩
end Go.Proofs.YtkajneeihhobhaaGreat

namespace Go.Proofs.YtkajneeihhobhaaGreat
open Go.RowKit Go.Maps Wal Pgr

theorem infoPL : (Tryz.prog.info? 41).map (fun i => (i.zero, i.size, i.bytes)) = some (some (.slice none 0 0), 1, 24) := by kernel_rfl
theorem wpList_append_puts {ops : Array Oper} {rest : List Oper} {o : Oper} {a : Act} {w : World} {Q : Exit → Act → World → Prop} (hgd : o.guard = none) (s x : Operand) (base : Nat)
    (ho : o.op = .call { callee := .builtin .append, args := #[s, x], argTypes := #[33, 33] }) (v : Value) (k : Nat) (xs : List Value) (hs : a.eval s = v) (hr : w.ownsRow base 41 1 v k xs) (q c : Nat) (A : Option Addr) (un uc : Nat) (hx : a.eval x = .slice (some ⟨q, 0, none⟩) 1 c)
    (hc : w.cell? ⟨q, 0, none⟩ = some (.slice A un uc)) (hk : k ≤ 5800000000000) (hb : base ≤ w.heap.size)
    (h : ∀ v' w', w'.ownsRow base 41 1 v' (k + 1) (xs ++ [.slice A un uc]) → w.grownBy w' v.ownBlock → (v'.ownBlock = v.ownBlock ∨ v'.ownBlock = some w.heap.size) → wpList Tryz.prog ops Q rest (a.put o.dst v') w') : wpList Tryz.prog ops Q (o :: rest) a w := by
  obtain ⟨i, hi, hz, hsize, hby⟩ := info_parts infoPL
  obtain ⟨v', w', h1, h2, h3, _, h4⟩ := run_append_own_at (P := Tryz.prog) w base 33 o.type 41 i (.slice none 0 0) 1 24 Tryz.underlying33 hi hz hsize hby rfl (by omega) v k xs hr ⟨q, 0, none⟩ 1 c [.slice A un uc] rfl
    (fun j y hy => by
      obtain rfl : j = 0 := by
        rcases j with _ | j
        · rfl
        · simp at hy
      have e : Value.slice A un uc = y := by simpa using hy
      rw [← e]
      exact hc) (fun y hy => by
        have : y = .slice A un uc := by simpa using hy
        rw [this]; rfl) (by simp only [maxLen]; omega) (by omega) hb
  refine wpList_plain hgd fun _ hK => ?_
  unfold Oper.wp execOp
  simp only [ho, resolve, invoke, builtin, Sem.run_bind, Sem.run_pure, Result.andThen_ok, List.map_toArray, List.map_cons, List.map_nil, hs, hx, h1]
  exact hK _ _ (h v' w' h2 h3 h4)
theorem row_mono {w : World} {base base' : Nat} {e : TypeId} {size : Nat} {v : Value} {n : Nat} {xs : List Value} (h : w.ownsRow base e size v n xs) (hb : base' ≤ base) : w.ownsRow base' e size v n xs := by
  refine ⟨h.1, ?_⟩
  rcases h.2 with h0 | ⟨g, cap, cur, rfl, h1, r⟩
  · exact .inl h0
  · exact .inr ⟨g, cap, cur, rfl, Nat.le_trans hb h1, r⟩
/-- A commit comes behind the others. -/
theorem PutsAt.push {w w' : World} {base : Nat} {v v' u : Value} {vs : List Value} {L : List (Nat × List Nat)} {Ls : List (List (Nat × List Nat))} (h : PutsAt w base v vs Ls) (hL : L.length ≤ 4611686018427387904) (hu : w.ownsRow base 109 2 u L.length (waitCells L)) (hr : w'.ownsRow base 41 1 v' (Ls.length + 1) (vs ++ [u])) (hg : w.grownBy w' v.ownBlock) : PutsAt w' base v' (vs ++ [u]) (Ls ++ [L]) := by
  have ho : Only v.ownBlock.toList w w' := (Only.refl _ w).grown hg (fun k hk => .inl (by simp [hk]))
  refine ⟨by rw [List.length_append]; exact hr, fun k y M h1 h2 => ?_⟩
  have hl : vs.length = Ls.length := by have := h.row.1; omega
  rcases Nat.lt_or_ge k Ls.length with hk | hk
  · rw [List.getElem?_append_left (by omega)] at h1 h2
    have he := h.each k y M h1 h2
    exact ⟨he.1, ho.row he.2 (fun x hx hm => rows_ne he.2 h.row (by decide) x hx (by simpa using hm))⟩
  · rw [List.getElem?_append_right (by omega)] at h1 h2
    rw [hl] at h1
    have k0 : k - Ls.length = 0 := by
      rcases Nat.eq_zero_or_pos (k - Ls.length) with h0 | h0
      · exact h0
      · rw [List.getElem?_eq_none (by simp; omega)] at h1; cases h1
    rw [k0] at h1 h2
    have e1 : u = y := by simpa using h1
    have e2 : L = M := by simpa using h2
    subst e1 e2
    exact ⟨hL, ho.row hu (fun x hx hm => rows_ne hu h.row (by decide) x hx (by simpa using hm))⟩
theorem wp_append_puts {o : Oper} {a : Act} {K : Act → World → Prop} {Q : Exit → Act → World → Prop} {w : World} (s x : Operand) (base : Nat)
    (ho : o.op = .call { callee := .builtin .append, args := #[s, x], argTypes := #[33, 33] }) (v : Value) (k : Nat) (xs : List Value) (hs : a.eval s = v) (hr : w.ownsRow base 41 1 v k xs) (q c : Nat) (A : Option Addr) (un uc : Nat) (hx : a.eval x = .slice (some ⟨q, 0, none⟩) 1 c)
    (hc : w.cell? ⟨q, 0, none⟩ = some (.slice A un uc)) (hk : k ≤ 5800000000000) (hb : base ≤ w.heap.size)
    (h : ∀ v' w', w'.ownsRow base 41 1 v' (k + 1) (xs ++ [.slice A un uc]) → w.grownBy w' v.ownBlock → (v'.ownBlock = v.ownBlock ∨ v'.ownBlock = some w.heap.size) → K (a.put o.dst v') w') :
    Oper.wp Tryz.prog o a w K Q := by
  obtain ⟨i, hi, hz, hsize, hby⟩ := info_parts infoPL
  obtain ⟨v', w', h1, h2, h3, _, h4⟩ := run_append_own_at (P := Tryz.prog) w base 33 o.type 41 i (.slice none 0 0) 1 24 Tryz.underlying33 hi hz hsize hby rfl (by omega) v k xs hr ⟨q, 0, none⟩ 1 c [.slice A un uc] rfl
    (fun j y hy => by
      obtain rfl : j = 0 := by
        rcases j with _ | j
        · rfl
        · simp at hy
      have e : Value.slice A un uc = y := by simpa using hy
      rw [← e]
      exact hc) (fun y hy => by
        have : y = .slice A un uc := by simpa using hy
        rw [this]; rfl) (by simp only [maxLen]; omega) (by omega) hb
  unfold Oper.wp execOp
  simp only [ho, resolve, invoke, builtin, Sem.run_bind, Sem.run_pure, Result.andThen_ok, List.map_toArray, List.map_cons, List.map_nil, hs, hx, h1]
  exact h v' w' h2 h3 h4
structure RCom (w w' : World) (base2 r bn rg : Nat) (v : Value) (vs : List Value) (vL : Value) (L : List (Nat × List Nat)) (Ls : List (List (Nat × List Nat))) (e : Ending) : Prop where
  none_ : L.length = 0 → e = .returned (.tuple #[.int .i64 (Ls.length : Nat), .int .i64 0]) ∧ w = w'
  big : L.length ≠ 0 → rg < (16 + L.length * 520 + 511) / 512 → e = .returned (.tuple #[.int .i64 0, .int .i64 13]) ∧ w = w'
  some_ : L.length ≠ 0 → (16 + L.length * 520 + 511) / 512 ≤ rg → e = .returned (.tuple #[.int .i64 ((Ls.length : Int) + 1), .int .i64 0]) ∧ ∃ v', Held w' r 35 #[.int .i64 (bn : Int), .int .i64 (rg : Int), v'] ∧ PutsAt w' base2 v' (vs ++ [vL]) (Ls ++ [L]) ∧ Only (r :: v.ownBlock.toList) w w' ∧ (v'.ownBlock = v.ownBlock ∨ ∃ x, v'.ownBlock = some x ∧ w.heap.size ≤ x)
/-- The row of commits was appended to, and stored. -/
theorem puts_stored {w w3 : World} {base base2 r t bn rg : Nat} {v vL v' : Value} {vs : List Value} {L : List (Nat × List Nat)} {Ls : List (List (Nat × List Nat))} (h : RTx w base r t bn rg v vL L) (hv : PutsAt w base2 v vs Ls) (hb : base2 ≤ base) (hL : L.length ≤ 100000) (o : Obj)
    (hr : w3.ownsRow base2 41 1 v' (Ls.length + 1) (vs ++ [vL])) (hg : (w.drew.alloc o).grownBy w3 v.ownBlock) (hat : v'.ownBlock = v.ownBlock ∨ v'.ownBlock = some (w.drew.alloc o).heap.size) :
    Held (w3.setCell ⟨r, 2, none⟩ v') r 35 #[.int .i64 (bn : Int), .int .i64 (rg : Int), v'] ∧ PutsAt (w3.setCell ⟨r, 2, none⟩ v') base2 v' (vs ++ [vL]) (Ls ++ [L]) ∧ Only (r :: v.ownBlock.toList) w (w3.setCell ⟨r, 2, none⟩ v') ∧ (v'.ownBlock = v.ownBlock ∨ ∃ x, v'.ownBlock = some x ∧ w.heap.size ≤ x) ∧ (w3.setCell ⟨r, 2, none⟩ v').cell? ⟨t, 0, none⟩ = some (.pointer (some ⟨r, 0, none⟩)) := by
  have b0 : Below w.heap.size w (w.drew.alloc o) := ((Only.refl [] w).drew.alloc o).below_nil
  have hvo : ∀ x, v.ownBlock = some x → x ≠ r := h.pg.ne_row hv.row (by decide)
  have hp := h.under b0
  have hq := PutsAt.push (L := L) (hv.under b0) (by omega) (row_mono hp.row hb) hr hg
  have o1 : Only v.ownBlock.toList (w.drew.alloc o) w3 := (Only.refl _ _).grown hg (fun k hk => .inl (by simp [hk]))
  have k1 : Held w3 r 35 #[.int .i64 (bn : Int), .int .i64 (rg : Int), v] := hp.pg.only o1 (fun hm => hvo r (by simpa using hm) rfl)
  have o2 : Only [r] w3 (w3.setCell ⟨r, 2, none⟩ v') := (Only.refl _ _).setCell (.inl (by simp)) _
  have k2 : Held w3 t 43 #[.pointer (some ⟨r, 0, none⟩), vL] := hp.tx.only o1 (fun hm => (h.tx.ne_row hv.row (by decide)) t (by simpa using hm) rfl)
  refine ⟨k1.set_ 2 v', ⟨o2.row hq.row (fun x hx => ?_), fun k u M h1 h2 => ⟨(hq.each k u M h1 h2).1, o2.row (hq.each k u M h1 h2).2 (fun x hx => ?_)⟩⟩, ?_, ?_, (k2.only o2 (by simpa using k2.ne_ k1 (by decide))).cell 0⟩
  · have := k1.ne_row hq.row (by decide) x hx
    simpa using this
  · have := k1.ne_row (hq.each k u M h1 h2).2 (by decide) x hx
    simpa using this
  · refine ((Only.of_below (F := r :: v.ownBlock.toList) b0).trans o1 (fun x hx => .inl (List.mem_cons_of_mem _ hx))).trans o2 (fun x hx => .inl ?_)
    have : x = r := by simpa using hx
    rw [this]; exact List.mem_cons_self
  · rcases hat with h1 | h1
    · exact .inl h1
    · exact .inr ⟨_, h1, b0.size⟩
set_option maxRecDepth 100000 in
set_option maxHeartbeats 3200000 in
theorem rtcommit_any (w : World) (base base2 r t bn rg : Nat) (v vL : Value) (vs : List Value) (L : List (Nat × List Nat)) (Ls : List (List (Nat × List Nat))) (h : RTx w base r t bn rg v vL L) (hv : PutsAt w base2 v vs Ls) (hL : L.length ≤ 100000) (hLs : Ls.length ≤ 5800000000000) (hb : base2 ≤ base) (hb2 : base2 ≤ w.heap.size) :
    Calls Tryz.prog 17 #[.pointer (some ⟨t, 0, none⟩)] w fun e w' => RCom w w' base2 r bn rg v vs vL L Ls e := by
  have t0 : w.cell? ⟨t, 0, none⟩ = some (.pointer (some ⟨r, 0, none⟩)) := h.tx.cell 0
  have t1 : w.cell? ⟨t, 1, none⟩ = some vL := h.tx.cell 1
  have r1 : w.cell? ⟨r, 1, none⟩ = some (.int .i64 (rg : Int)) := h.pg.cell 1
  have r2 : w.cell? ⟨r, 2, none⟩ = some v := h.pg.cell 2
  obtain ⟨A, c, rfl⟩ := pslice h.row
  obtain ⟨A2, c2, rfl⟩ := pslice hv.row
  have ST := fun (o : Obj) (w3 : World) (v' : Value) => Lib.hid (puts_stored (w3 := w3) (v' := v') h hv hb hL o)
  have RA : Hid ((w.drew.alloc (.cells #[.slice A L.length c] 41)).ownsRow base2 41 1 (.slice A2 Ls.length c2) Ls.length vs) := ((Only.refl [] w).drew.alloc _).row hv.row (fun _ _ hx => by cases hx)
  have PG : Hid (Held (w.drew.alloc (.cells #[.slice A L.length c] 41)) r 35 #[.int .i64 (bn : Int), .int .i64 (rg : Int), .slice A2 Ls.length c2]) := (h.under ((Only.refl [] w).drew.alloc _).below_nil).pg
  have VO : Hid (∀ x, (Value.slice A2 Ls.length c2).ownBlock = some x → x ≠ r) := h.pg.ne_row hv.row (by decide)
  have KA : Hid ((w.drew.alloc (.cells #[.slice A L.length c] 41)).cell? ⟨w.heap.size, 0, none⟩ = some (.slice A L.length c)) := (Held.new w.drew _ _ rfl).cell 0
  have BA : Hid (base2 ≤ (w.drew.alloc (.cells #[.slice A L.length c] 41)).heap.size) := by show _ ≤ _; rw [World.size_alloc]; exact Nat.le_trans hb2 (Nat.le_succ _)
  have TT : Hid (Held (w.drew.alloc (.cells #[.slice A L.length c] 41)) t 43 #[.pointer (some ⟨r, 0, none⟩), .slice A L.length c]) := (h.under ((Only.refl [] w).drew.alloc _).below_nil).tx
  have TO : Hid (∀ x, (Value.slice A2 Ls.length c2).ownBlock = some x → x ≠ t) := h.tx.ne_row hv.row (by decide)
  have RT : Hid (r ≠ t) := h.pg.ne_ h.tx (by decide)
  have TL : Hid (t < w.heap.size ∧ r < w.heap.size) := ⟨h.tx.lt, h.pg.lt⟩
  have AL : Hid (Below w.heap.size w (w.alloc (.cells #[.slice A L.length c] 41))) := (Below.refl _ _).alloc (Nat.le_refl _) _
  have hn4 : (L.length : Int) ≤ 100000 := by omega
  have hm4 : (Ls.length : Int) ≤ 5800000000000 := by omega
  obtain ⟨n, hn⟩ : ∃ n, n = L.length := ⟨_, rfl⟩
  obtain ⟨m, hm⟩ : ∃ m, m = Ls.length := ⟨_, rfl⟩
  have EN := Lib.hid hn
  have EM := Lib.hid hm
  rw [← hn] at t1 RA PG KA BA ST hn4 AL TT
  rw [← hm] at r2 RA PG VO ST hm4 TO
  clear h hv hn hm hL hLs hb hb2
  by_cases h0 : n = 0
  · subst h0
    go_enter Tryz.func17, Tryz.ntmps17
    go_wp2_with fail
    go_ret2
    exact ⟨fun _ => ⟨by rw [← EM.out]; rfl, rfl⟩, fun h => absurd EN.out.symm h, fun h => absurd EN.out.symm h⟩
  · have hn0 : (0 : Int) < (n : Int) := by omega
    have NE : Hid (L.length ≠ 0) := by show _ ≠ _; rw [← EN.out]; exact h0
    obtain ⟨q, hq⟩ : ∃ q : Nat, q = (16 + n * 520 + 511) / 512 := ⟨_, rfl⟩
    have hqi : (16 + (n : Int) * 520 + 511).tdiv 512 = (q : Int) := by
      rw [Int.tdiv_eq_ediv_of_nonneg (by omega)]
      omega
    have hwq : wrap64 (q : Int) = (q : Int) := by unfold wrap64; omega
    have HQ : Hid (q = (16 + L.length * 520 + 511) / 512) := by show _ = _; rw [← EN.out]; exact hq
    clear hq h0
    by_cases hbig : rg < q
    · have hbig' : (rg : Int) < (q : Int) := by omega
      go_enter Tryz.func17, Tryz.ntmps17
      go_wp2_with fail
      go_ret2
      exact ⟨fun h => absurd h NE.out, fun _ _ => ⟨rfl, rfl⟩, fun _ h => by have := HQ.out; omega⟩
    · have hbig' : ¬ (rg : Int) < (q : Int) := by omega
      have BG : Hid (¬ rg < q) := hbig
      clear hbig
      go_enter Tryz.func17, Tryz.ntmps17
      go_wp2_with fail
      have x0 : (w.alloc (.cells #[.slice A n c] 41)).cell? ⟨t, 0, none⟩ = some (.pointer (some ⟨r, 0, none⟩)) := (AL.out.cell (p := ⟨t, 0, none⟩) TL.out.1).trans t0
      have x1 : (w.alloc (.cells #[.slice A n c] 41)).cell? ⟨t, 1, none⟩ = some (.slice A n c) := (AL.out.cell (p := ⟨t, 1, none⟩) TL.out.1).trans t1
      have x2 : (w.alloc (.cells #[.slice A n c] 41)).cell? ⟨r, 2, none⟩ = some (.slice A2 m c2) := (AL.out.cell (p := ⟨r, 2, none⟩) TL.out.2).trans r2
      refine wp_region_noPanic ?_
      refine wp_region_held_drew (S := fun w' => w'.cell? ⟨t, 0, none⟩ = some (.pointer (some ⟨r, 0, none⟩)) ∧ w'.cell? ⟨t, 1, none⟩ = some (.slice A n c)) (by kernel_rfl) ⟨t0, t1⟩ (fun hHeld => ?_)
      refine take_ (i := 0) (v := ?_) 27 rfl rfl (by kernel_rfl) (by kernel_rfl) (by kernel_rfl) (fun _ _ _ h => h) (Or.inl ⟨by rfl, ?_⟩) (by assumption) ?_
      rotate_left
      · (intro wS hSw; (try dsimp only at hSw); go_simp; try with_reducible rfl)
      simp only [Act.put, List.setIfInBounds_toArray, List.set_cons_zero, List.set_cons_succ]
      refine take_ (i := 1) (v := ?_) 28 rfl rfl (by kernel_rfl) (by kernel_rfl) (by kernel_rfl) (fun _ _ _ h => h) (Or.inl ⟨by rfl, ?_⟩) (by assumption) ?_
      rotate_left
      · (intro wS hSw; (try dsimp only at hSw); go_simp; try with_reducible rfl)
      simp only [Act.put, List.setIfInBounds_toArray, List.set_cons_zero, List.set_cons_succ]
      refine take_ (i := 2) (v := ?_) 29 rfl rfl (by kernel_rfl) (by kernel_rfl) (by kernel_rfl) (fun _ _ _ h => h) (Or.inl ⟨by rfl, ?_⟩) (by assumption) ?_
      rotate_left
      · (intro wS hSw; (try dsimp only at hSw); go_simp; try with_reducible rfl)
      simp only [Act.put, List.setIfInBounds_toArray, List.set_cons_zero, List.set_cons_succ]
      refine take_ (i := 3) (v := ?_) 30 rfl rfl (by kernel_rfl) (by kernel_rfl) (by kernel_rfl) (fun _ _ _ h => h) (Or.inl ⟨by rfl, ?_⟩) (by assumption) ?_
      rotate_left
      · (intro wS hSw; (try dsimp only at hSw); go_simp; try with_reducible rfl)
      simp only [Act.put, List.setIfInBounds_toArray, List.set_cons_zero, List.set_cons_succ]
      refine take_ (i := 4) (v := ?_) 31 rfl rfl (by kernel_rfl) (by kernel_rfl) (by kernel_rfl) (fun _ _ _ h => h) (Or.inl ⟨by rfl, ?_⟩) (by assumption) ?_
      rotate_left
      · (intro wS hSw; (try dsimp only at hSw); go_simp; try with_reducible rfl)
      simp only [Act.put, List.setIfInBounds_toArray, List.set_cons_zero, List.set_cons_succ]
      refine take_ (i := 5) (v := ?_) 32 rfl rfl (by kernel_rfl) (by kernel_rfl) (by kernel_rfl) (fun _ _ _ h => h) (Or.inl ⟨by rfl, ?_⟩) (by assumption) ?_
      rotate_left
      · (intro wS hSw; (try dsimp only at hSw); go_simp; try with_reducible rfl)
      simp only [Act.put, List.setIfInBounds_toArray, List.set_cons_zero, List.set_cons_succ]
      refine take_ (i := 6) (v := ?_) 33 rfl rfl (by kernel_rfl) (by kernel_rfl) (by kernel_rfl) (fun _ _ _ h => h) (Or.inl ⟨by rfl, ?_⟩) (by assumption) ?_
      rotate_left
      · (intro wS hSw; (try dsimp only at hSw); go_simp; try with_reducible rfl)
      simp only [Act.put, List.setIfInBounds_toArray, List.set_cons_zero, List.set_cons_succ]
      refine take_ (i := 7) (v := ?_) 34 rfl rfl (by kernel_rfl) (by kernel_rfl) (by kernel_rfl) (fun _ _ _ h => h) (Or.inl ⟨by rfl, ?_⟩) (by assumption) ?_
      rotate_left
      · (intro wS hSw; (try dsimp only at hSw); go_simp; try with_reducible rfl)
      simp only [Act.put, List.setIfInBounds_toArray, List.set_cons_zero, List.set_cons_succ]
      refine take_ (i := 8) (v := ?_) 35 rfl rfl (by kernel_rfl) (by kernel_rfl) (by kernel_rfl) (fun _ _ _ h => h) (Or.inl ⟨by rfl, ?_⟩) (by assumption) ?_
      rotate_left
      · (intro wS hSw; (try dsimp only at hSw); go_simp; try with_reducible rfl)
      simp only [Act.put, List.setIfInBounds_toArray, List.set_cons_zero, List.set_cons_succ]
      refine take_ (i := 9) (v := ?_) 36 rfl rfl (by kernel_rfl) (by kernel_rfl) (by kernel_rfl) (fun _ _ _ h => h) (Or.inl ⟨by rfl, ?_⟩) (by assumption) ?_
      rotate_left
      · (intro wS hSw; (try dsimp only at hSw); go_simp; try with_reducible rfl)
      simp only [Act.put, List.setIfInBounds_toArray, List.set_cons_zero, List.set_cons_succ]
      refine take_ (i := 11) (v := ?_) 38 rfl rfl (by kernel_rfl) (by kernel_rfl) (by kernel_rfl) (fun _ _ _ h => h) (Or.inl ⟨by rfl, ?_⟩) (by assumption) ?_
      rotate_left
      · (intro wS hSw; (try dsimp only at hSw); go_simp; try with_reducible rfl)
      simp only [Act.put, List.setIfInBounds_toArray, List.set_cons_zero, List.set_cons_succ]
      refine take_ (i := 12) (v := ?_) 39 rfl rfl (by kernel_rfl) (by kernel_rfl) (by kernel_rfl) (fun _ _ _ h => h) (Or.inl ⟨by rfl, ?_⟩) (by assumption) ?_
      rotate_left
      · (intro wS hSw; (try dsimp only at hSw); go_simp; try with_reducible rfl)
      simp only [Act.put, List.setIfInBounds_toArray, List.set_cons_zero, List.set_cons_succ]
      refine take_ (i := 13) (v := ?_) 40 rfl rfl (by kernel_rfl) (by kernel_rfl) (by kernel_rfl) (fun _ _ _ h => h) (Or.inl ⟨by rfl, ?_⟩) (by assumption) ?_
      rotate_left
      · (intro wS hSw; (try dsimp only at hSw); go_simp; try with_reducible rfl)
      simp only [Act.put, List.setIfInBounds_toArray, List.set_cons_zero, List.set_cons_succ]
      refine take_ (i := 14) (v := ?_) 41 rfl rfl (by kernel_rfl) (by kernel_rfl) (by kernel_rfl) (fun _ _ _ h => h) (Or.inl ⟨by rfl, ?_⟩) (by assumption) ?_
      rotate_left
      · (intro wS hSw; (try dsimp only at hSw); go_simp; try with_reducible rfl)
      simp only [Act.put, List.setIfInBounds_toArray, List.set_cons_zero, List.set_cons_succ]
      refine two_ (i := 10) (j := 15) _ _ (by kernel_rfl) rfl rfl (fun K hK => ?_) (fun K hK => ?_)
      · go_simp
        refine hK.out _ _ ⟨t0, t1⟩ (fun hHeld => ?_)
        clear hK K
        refine one_ (i := 15) _ (by kernel_rfl) rfl (fun K hK => ?_)
        go_simp
        refine hK.out _ _ ⟨x0, x1⟩ (fun hHeld => ?_)
        clear hK K
        refine one_ (i := 16) _ (by kernel_rfl) rfl (fun K hK => ?_)
        refine wp_append_puts (.tmp 37) (.tmp 42) base2 rfl (.slice A2 m c2) m vs rfl RA.out w.heap.size 1 A n c rfl KA.out (by omega) BA.out ?_
        intro v' w3 hrow hgrow hblk
        obtain ⟨A3, c3, rfl⟩ := pslice hrow
        have ho : Only (Value.slice A2 m c2).ownBlock.toList _ w3 := (Only.refl _ _).grown hgrow (fun k hk => .inl (by simp [hk]))
        have G3 := PG.out.only ho (fun hm => VO.out r (by simpa using hm) rfl)
        have g2 := G3.cell 2
        have g3 := G3.frozen 2
        have G4 := TT.out.only ho (fun hm => TO.out t (by simpa using hm) rfl)
        have g4 : w3.cell? ⟨t, 0, none⟩ = some (.pointer (some ⟨r, 0, none⟩)) := G4.cell 0
        have g5 : w3.cell? ⟨t, 1, none⟩ = some (.slice A n c) := G4.cell 1
        have SS := Lib.hid ((ST _ w3 _).out hrow hgrow hblk)
        have g6 : (w3.setCell ⟨r, 2, none⟩ (.slice A3 (m + 1) c3)).cell? ⟨t, 0, none⟩ = some (.pointer (some ⟨r, 0, none⟩)) := SS.out.2.2.2.2
        have g7 : (w3.setCell ⟨r, 2, none⟩ (.slice A3 (m + 1) c3)).cell? ⟨t, 1, none⟩ = some (.slice A n c) := (World.cell?_setCell_other _ _ _ _ (fun e => RT.out (congrArg Addr.block e))).trans g5
        clear hrow hgrow hblk G3 G4 ho
        go_simp
        refine hK.out _ _ ⟨g4, g5⟩ (fun hHeld => ?_)
        clear hK K
        refine take_ (i := 17) (v := ?_) 44 rfl rfl (by kernel_rfl) (by kernel_rfl) (by kernel_rfl) (fun _ _ _ h => h) (Or.inl ⟨by rfl, ?_⟩) (by assumption) ?_
        rotate_left
        · (intro wS hSw; (try dsimp only at hSw); go_simp; try with_reducible rfl)
        simp only [Act.put, List.setIfInBounds_toArray, List.set_cons_zero, List.set_cons_succ]
        refine take_ (i := 18) (v := ?_) 45 rfl rfl (by kernel_rfl) (by kernel_rfl) (by kernel_rfl) (fun _ _ _ h => h) (Or.inl ⟨by rfl, ?_⟩) (by assumption) ?_
        rotate_left
        · (intro wS hSw; (try dsimp only at hSw); go_simp; try with_reducible rfl)
        simp only [Act.put, List.setIfInBounds_toArray, List.set_cons_zero, List.set_cons_succ]
        refine one_ (i := 19) _ (by kernel_rfl) rfl (fun K hK => ?_)
        go_simp
        refine hK.out _ _ ⟨g6, g7⟩ (fun hHeld => ?_)
        clear hK K
        refine wpAnyH_done (by kernel_rfl) ?_ _
        refine NoPanic.normal ?_
        have g8 : (w3.setCell ⟨r, 2, none⟩ (.slice A3 (m + 1) c3)).cell? ⟨r, 2, none⟩ = some (.slice A3 (m + 1) c3) := SS.out.1.cell 2
        clear g2 g3 g4 g5 g7 hHeld t0 t1 r1 r2 x0 x1 x2
        generalize w3.setCell ⟨r, 2, none⟩ (.slice A3 (m + 1) c3) = w4 at *
        go_wp2_with fail
        go_ret2
        have e1 := EN.out
        have e2 := EM.out
        subst e1 e2
        exact ⟨fun h => absurd h NE.out, fun _ h => absurd (HQ.out ▸ h) BG.out, fun _ _ => ⟨rfl, _, SS.out.1, SS.out.2.1, SS.out.2.2.1, SS.out.2.2.2.1⟩⟩
      · go_simp
        refine hK.out _ _ ⟨x0, x1⟩ (fun hHeld => ?_)
        clear hK K
        refine one_ (i := 10) _ (by kernel_rfl) rfl (fun K hK => ?_)
        go_simp
        refine hK.out _ _ ⟨x0, x1⟩ (fun hHeld => ?_)
        clear hK K
        refine one_ (i := 16) _ (by kernel_rfl) rfl (fun K hK => ?_)
        refine wp_append_puts (.tmp 37) (.tmp 42) base2 rfl (.slice A2 m c2) m vs rfl RA.out w.heap.size 1 A n c rfl KA.out (by omega) BA.out ?_
        intro v' w3 hrow hgrow hblk
        obtain ⟨A3, c3, rfl⟩ := pslice hrow
        have ho : Only (Value.slice A2 m c2).ownBlock.toList _ w3 := (Only.refl _ _).grown hgrow (fun k hk => .inl (by simp [hk]))
        have G3 := PG.out.only ho (fun hm => VO.out r (by simpa using hm) rfl)
        have g2 := G3.cell 2
        have g3 := G3.frozen 2
        have G4 := TT.out.only ho (fun hm => TO.out t (by simpa using hm) rfl)
        have g4 : w3.cell? ⟨t, 0, none⟩ = some (.pointer (some ⟨r, 0, none⟩)) := G4.cell 0
        have g5 : w3.cell? ⟨t, 1, none⟩ = some (.slice A n c) := G4.cell 1
        have SS := Lib.hid ((ST _ w3 _).out hrow hgrow hblk)
        have g6 : (w3.setCell ⟨r, 2, none⟩ (.slice A3 (m + 1) c3)).cell? ⟨t, 0, none⟩ = some (.pointer (some ⟨r, 0, none⟩)) := SS.out.2.2.2.2
        have g7 : (w3.setCell ⟨r, 2, none⟩ (.slice A3 (m + 1) c3)).cell? ⟨t, 1, none⟩ = some (.slice A n c) := (World.cell?_setCell_other _ _ _ _ (fun e => RT.out (congrArg Addr.block e))).trans g5
        clear hrow hgrow hblk G3 G4 ho
        go_simp
        refine hK.out _ _ ⟨g4, g5⟩ (fun hHeld => ?_)
        clear hK K
        refine take_ (i := 17) (v := ?_) 44 rfl rfl (by kernel_rfl) (by kernel_rfl) (by kernel_rfl) (fun _ _ _ h => h) (Or.inl ⟨by rfl, ?_⟩) (by assumption) ?_
        rotate_left
        · (intro wS hSw; (try dsimp only at hSw); go_simp; try with_reducible rfl)
        simp only [Act.put, List.setIfInBounds_toArray, List.set_cons_zero, List.set_cons_succ]
        refine take_ (i := 18) (v := ?_) 45 rfl rfl (by kernel_rfl) (by kernel_rfl) (by kernel_rfl) (fun _ _ _ h => h) (Or.inl ⟨by rfl, ?_⟩) (by assumption) ?_
        rotate_left
        · (intro wS hSw; (try dsimp only at hSw); go_simp; try with_reducible rfl)
        simp only [Act.put, List.setIfInBounds_toArray, List.set_cons_zero, List.set_cons_succ]
        refine one_ (i := 19) _ (by kernel_rfl) rfl (fun K hK => ?_)
        go_simp
        refine hK.out _ _ ⟨g6, g7⟩ (fun hHeld => ?_)
        clear hK K
        refine wpAnyH_done (by kernel_rfl) ?_ _
        refine NoPanic.normal ?_
        have g8 : (w3.setCell ⟨r, 2, none⟩ (.slice A3 (m + 1) c3)).cell? ⟨r, 2, none⟩ = some (.slice A3 (m + 1) c3) := SS.out.1.cell 2
        clear g2 g3 g4 g5 g7 hHeld t0 t1 r1 r2 x0 x1 x2
        generalize w3.setCell ⟨r, 2, none⟩ (.slice A3 (m + 1) c3) = w4 at *
        go_wp2_with fail
        go_ret2
        have e1 := EN.out
        have e2 := EM.out
        subst e1 e2
        exact ⟨fun h => absurd h NE.out, fun _ h => absurd (HQ.out ▸ h) BG.out, fun _ _ => ⟨rfl, _, SS.out.1, SS.out.2.1, SS.out.2.2.1, SS.out.2.2.2.1⟩⟩
end Go.Proofs.YtkajneeihhobhaaGreat

namespace Go.Proofs.YtkajneeihhobhaaGreat
open Go.RowKit Go.Maps Wal Pgr

theorem findF_none (b : Nat) : ∀ (L : List (Nat × List Nat)) (o : Option (List Nat)), L.foldl (fun acc p => if (p.1 : Int) = (b : Int) then some p.2 else acc) o = none ↔ o = none ∧ b ∉ L.map Prod.fst
  | [], o => by simp
  | p :: r, o => by
    show r.foldl _ (if (p.1 : Int) = (b : Int) then some p.2 else o) = none ↔ _
    rw [findF_none b r]
    by_cases h : (p.1 : Int) = (b : Int)
    · have e : p.1 = b := by omega
      simp [e]
    · have e : ¬ b = p.1 := by omega
      simp [h, e]
theorem findL_none {L : List (Nat × List Nat)} {b : Nat} : findL L (b : Int) = none ↔ b ∉ L.map Prod.fst := by
  unfold findL
  rw [findF_none]
  simp
theorem findF_drop (b c : Nat) (h : c ≠ b) : ∀ (L : List (Nat × List Nat)) (o : Option (List Nat)), (dropB L (b : Int)).foldl (fun acc p => if (p.1 : Int) = (c : Int) then some p.2 else acc) o = L.foldl (fun acc p => if (p.1 : Int) = (c : Int) then some p.2 else acc) o
  | [], o => rfl
  | p :: r, o => by
    have ih := findF_drop b c h r
    unfold dropB at ih ⊢
    by_cases e : (p.1 : Int) = (b : Int)
    · rw [List.filter_cons_of_neg (by simpa using e)]
      have : ¬ (p.1 : Int) = (c : Int) := by omega
      show _ = r.foldl _ (if (p.1 : Int) = (c : Int) then some p.2 else o)
      rw [if_neg this]
      exact ih o
    · rw [List.filter_cons_of_pos (by simpa using e)]
      exact ih _
theorem findL_drop {L : List (Nat × List Nat)} {b c : Nat} (h : c ≠ b) : findL (dropB L (b : Int)) (c : Int) = findL L (c : Int) := findF_drop b c h L none
/-- The list L tells what g tells. -/
structure Sim4 (N : Nat) (g : Com) (L : List (Nat × List Nat)) : Prop where
  same : ∀ b : Nat, g b = findL L (b : Int)
  nodup : (L.map Prod.fst).Nodup
  lt : ∀ p ∈ L, p.1 < N
section
variable {N : Nat} {g : Com} {L : List (Nat × List Nat)} {C : List Com} {Ls : List (List (Nat × List Nat))}
theorem Sim4.nil (N : Nat) : Sim4 N (fun _ => none) [] := ⟨fun _ => rfl, by simp, by simp⟩
theorem Sim4.write (h : Sim4 N g L) {b : Nat} (hb : b < N) (l : List Nat) : Sim4 N (upd g b l) (dropB L (b : Int) ++ [(b, l)]) := by
  refine ⟨fun c => ?_, ?_, fun p hp => ?_⟩
  · rw [findL_snoc]
    unfold upd
    by_cases e : c = b
    · subst e; simp
    · have e' : ¬ (b : Int) = (c : Int) := by omega
      rw [if_neg e, if_neg e', findL_drop e]
      exact h.same c
  · rw [List.map_append, List.nodup_append]
    refine ⟨?_, by simp, fun x hx y hy => ?_⟩
    · exact h.nodup.sublist (List.filter_sublist.map _)
    · obtain ⟨p, hp, rfl⟩ := List.mem_map.1 hx
      have h1 := (List.mem_filter.1 hp).2
      have : y = b := by simpa using hy
      rw [this]
      intro e
      simp [e] at h1
  · rcases List.mem_append.1 hp with hp | hp
    · exact h.lt p (List.mem_filter.1 hp).1
    · have : p = (b, l) := by simpa using hp
      rw [this]; exact hb
theorem Sim4.len (h : Sim4 N g L) : (dirt N g).length = L.length := by
  rw [dirt_of_mem h.nodup (fun x => ?_), List.length_map]
  rw [h.same x]
  constructor
  · rintro ⟨_, h2⟩
    exact Decidable.byContradiction fun hn => by
      rw [findL_none.2 hn] at h2
      cases h2
  · intro hx
    obtain ⟨p, hp, rfl⟩ := List.mem_map.1 hx
    refine ⟨h.lt p hp, ?_⟩
    rcases hf : findL L (p.1 : Int) with _ | z
    · exact absurd hx (findL_none.1 hf)
    · rfl
theorem Sim4.see (h : Sim4 N g L) (hC : ∀ b : Nat, At C b = atL Ls (b : Int)) (b : Nat) : seeB C g b = seeL Ls L (b : Int) := by
  unfold seeB seeL
  rw [h.same b, hC b]
/-- Commits and lists of Puts. -/
structure Sims (N : Nat) (C : List Com) (Ls : List (List (Nat × List Nat))) : Prop where
  len : C.length = Ls.length
  each : ∀ (k : Nat) (g : Com) (L : List (Nat × List Nat)), C[k]? = some g → Ls[k]? = some L → Sim4 N g L
theorem Sims.nil (N : Nat) : Sims N [] [] := ⟨rfl, fun k g L h => by simp at h⟩
theorem Sims.push (h : Sims N C Ls) (k : Sim4 N g L) : Sims N (C ++ [g]) (Ls ++ [L]) := by
  refine ⟨by simp [h.len], fun i x y h1 h2 => ?_⟩
  have hl := h.len
  rcases Nat.lt_or_ge i C.length with hi | hi
  · rw [List.getElem?_append_left (by omega)] at h1 h2
    exact h.each i x y h1 h2
  · rw [List.getElem?_append_right (by omega)] at h1 h2
    have i0 : i - C.length = 0 := by
      rcases Nat.eq_zero_or_pos (i - C.length) with h0 | h0
      · exact h0
      · rw [List.getElem?_eq_none (by simp; omega)] at h1; cases h1
    rw [← hl] at h2
    rw [i0] at h1 h2
    have e1 : g = x := by simpa using h1
    have e2 : L = y := by simpa using h2
    subst e1 e2
    exact k
theorem Sims.take (h : Sims N C Ls) (n : Nat) : Sims N (C.take n) (Ls.take n) := by
  refine ⟨by simp [h.len], fun i x y h1 h2 => ?_⟩
  rw [List.getElem?_take] at h1 h2
  split at h1
  · rename_i hi
    rw [if_pos hi] at h2
    exact h.each i x y h1 h2
  · cases h1
theorem sims_at (N b : Nat) : ∀ (C : List Com) (Ls : List (List (Nat × List Nat))) (z : List Nat), Sims N C Ls → C.foldl (fun z g => (g b).getD z) z = Ls.foldl (fun z L => (findL L (b : Int)).getD z) z
  | [], [], _, _ => rfl
  | [], _ :: _, _, h => by have := h.len; simp at this
  | _ :: _, [], _, h => by have := h.len; simp at this
  | g :: C, L :: Ls, z, h => by
    have h0 := h.each 0 g L rfl rfl
    show C.foldl _ ((g b).getD z) = Ls.foldl _ ((findL L (b : Int)).getD z)
    rw [h0.same b]
    exact sims_at N b C Ls _ ⟨by have := h.len; simpa using this, fun k x y h1 h2 => h.each (k + 1) x y (by simpa using h1) (by simpa using h2)⟩
theorem Sims.at_ (h : Sims N C Ls) (b : Nat) : At C b = atL Ls (b : Int) := sims_at N b C Ls _ h
end
end Go.Proofs.YtkajneeihhobhaaGreat
