/-
  blob: Size, Blocks.
-/
import Derived.Test.YtlofpbmceipkkaaM17
namespace Go.Proofs.Ytlofpbmceipkkaa
open Go.RowKit Wal Blob

theorem There.few {n : Nat} {f : Nat → Option KB} {h : Nat} {parts l : List Nat} (t : There n f h parts l) : parts.length ≤ 96 := by
  rcases t with ⟨_, rfl, _⟩ | t
  · simp
  · exact t.fine.few
set_option maxRecDepth 100000 in
theorem size1_any (B : Nat) (w : World) (p n : Nat) (f : Nat → Option KB) (_hm : MemAt B w p n f) (h : Nat) (parts l : List Nat) (_t : There n f h parts l) (A : Option Addr) (m c : Nat) (hmm : m = parts.length) (_hi : IntsAt w A parts) (q : Nat) (y : Value) (hq : Held w q 3 #[y]) :
    Calls Try.prog 31 #[blobV (sto p) h l.length A m c, .pointer (some ⟨q, 0, none⟩)] w fun e w3 => e = .returned (.tuple #[]) ∧ ∃ w2, Below w.heap.size w w2 ∧ w3 = w2.setCell ⟨q, 0, none⟩ (.int .i64 (l.length : Int)) := by
  have HQ := Lib.hid hq
  subst hmm
  obtain ⟨w1, hw1⟩ : ∃ w1, w1 = w.alloc (.cells (blobCs (sto p) h l.length A parts.length c) 61) := ⟨_, rfl⟩
  have B1 : Hid (Below w.heap.size w w1) := by rw [hw1]; exact (Below.refl _ _).alloc (Nat.le_refl _) _
  have H1 : Hid (Held w1 w.heap.size 61 (blobCs (sto p) h l.length A parts.length c)) := by rw [hw1]; exact Held.new _ _ _ rfl
  obtain ⟨d0, d1, d2, d3, _⟩ := H1.out.blob
  obtain ⟨sv, hsv⟩ : ∃ sv, sv = sto p := ⟨_, rfl⟩
  have HW := Lib.hid hw1
  clear hq hw1
  unfold blobV blobCs at *
  rw [← hsv] at d0 HW ⊢
  unfold sto at hsv
  subst hsv
  go_enter Try.func31, Try.ntmps31
  go_upto_region 1 with fail
  rw [← HW.out]
  clear HW H1
  have Q2 := Lib.hid (HQ.out.below B1.out HQ.out.lt)
  have cq : w1.cell? ⟨q, 0, none⟩ = some y := Q2.out.cell 0
  have zq := Q2.out.frozen 0
  go_wp2_with fail
  go_end0
  exact ⟨rfl, w1, B1.out, rfl⟩
set_option maxRecDepth 100000 in
set_option maxHeartbeats 1600000 in
/-- Size. -/
theorem bsize_all (B : Nat) (w : World) (p n : Nat) (f : Nat → Option KB) (hm : MemAt B w p n f) (h : Nat) (parts l : List Nat) (t : There n f h parts l) :
    Calls Try.prog 19 #[sto p, .int .i64 (h : Int)] w fun e w' => e = .returned (.tuple #[.int .i64 (l.length : Int), .int .i64 0]) ∧ MemAt B w' p n f ∧ Kp B w w' := by
  obtain ⟨w1, hw1⟩ : ∃ w1, w1 = w.alloc (.cells #[.int .i64 0] 3) := ⟨_, rfl⟩
  have B1 : Hid (Below w.heap.size w w1) := by rw [hw1]; exact (Below.refl _ _).alloc (Nat.le_refl _) _
  have Q1 : Hid (Held w1 w.heap.size 3 #[.int .i64 0]) := by rw [hw1]; exact Held.new _ _ _ rfl
  have M1 := hm.under B1.out
  have VS := Lib.hid (visit_any B w1 p n f M1 h parts l t 31 #[.pointer (some ⟨w.heap.size, 0, none⟩)] (some w.heap.size) (fun v w2 => v = .int .i64 (l.length : Int) ∧ MemAt B w2 p n f ∧ Held w2 w.heap.size 3 #[.int .i64 0]) (fun _ _ => False) (fun a u => rfl)
    (fun w2 A m c hmm hi hb => (size1_any B w2 p n f (M1.under hb) h parts l t A m c hmm hi w.heap.size _ (Q1.out.below hb Q1.out.lt)).mono (fun e w3 ⟨he, w4, hb4, hw4⟩ => .inl ⟨he, _, w4, ⟨rfl, (M1.under hb).under hb4, (Q1.out.below hb Q1.out.lt).below hb4 (Nat.lt_of_lt_of_le Q1.out.lt hb.size)⟩, Kp.under hb4, hw4⟩)) (fun x hx => by injection hx with hx; subst hx; exact Q1.out.lt))
  have HW := Lib.hid hw1
  have LT : Hid (w.heap.size < w1.heap.size) := Q1.out.lt
  clear hm t M1 hw1
  obtain ⟨sv, hsv⟩ : ∃ sv, sv = sto p := ⟨_, rfl⟩
  rw [← hsv] at VS ⊢
  unfold sto at hsv
  subst hsv
  go_enter Try.func19, Try.ntmps19
  go_upto_region 1 with fail
  rw [← HW.out]
  clear HW
  go_wp2_with fail
  refine VS.out.mono ?_
  rintro e w' ⟨x, hx, ⟨rfl, v, w2, ⟨rfl, m2, q2⟩, k2, x2, rfl⟩ | ⟨err, w2, o, _, hF, _⟩⟩
  · have ne : w.heap.size ≠ x := by have := LT.out; omega
    have C := Lib.hid (closed (v := .int .i64 (l.length : Int)) (Kp.under B1.out) k2 q2 x2 (Nat.le_refl _) (Nat.le_trans (Nat.le_of_lt LT.out) hx) (T := 3) ⟨by decide, by decide, by decide⟩ ne m2)
    unfold setO
    simp only
    generalize (w2.setCell ⟨w.heap.size, 0, none⟩ (.int .i64 (l.length : Int))).setCell ⟨x, 0, none⟩ (.int .i64 0) = u at *
    have cu : u.cell? ⟨w.heap.size, 0, none⟩ = some (.int .i64 (l.length : Int)) := C.out.1.cell 0
    have zu := C.out.1.frozen 0
    have C2 := Lib.hid (C.out.1.set_ 0 (.int .i64 (l.length : Int)))
    clear VS k2 x2 q2 m2 hx ne
    go_wp2_with fail
    refine bodyPost_ret (res_cell_tmp _ _ 5 4 3 (.int .i64 0) (.int .i64 (l.length : Int)) _ Try.results19 rfl rfl (load_one (Try.isAgg3 _) (C2.out.cell 0))) rfl ⟨rfl, C.out.2.1.set_ C.out.1 (by decide) (by decide) (by decide) 0 _, C.out.2.2.new_ (Nat.le_refl _) 0 _⟩
  · exact hF.elim
set_option maxRecDepth 100000 in
theorem blocks1_any (B : Nat) (w : World) (p n : Nat) (f : Nat → Option KB) (_hm : MemAt B w p n f) (h : Nat) (parts l : List Nat) (_t : There n f h parts l) (A : Option Addr) (m c : Nat) (hmm : m = parts.length) (hi : IntsAt w A parts) (hn : parts.length ≤ 96) (q : Nat) (y : Value) (hq : Held w q 59 #[y]) :
    Calls Try.prog 40 #[blobV (sto p) h l.length A m c, .pointer (some ⟨q, 0, none⟩)] w fun e w3 => e = .returned (.tuple #[]) ∧ ∃ w2 A' m' c', m' = (allB h parts).length ∧ IntsAt w2 A' (allB h parts) ∧ Below w.heap.size w w2 ∧ w3 = w2.setCell ⟨q, 0, none⟩ (.slice A' m' c') := by
  have HQ := Lib.hid hq
  subst hmm
  obtain ⟨w1, hw1⟩ : ∃ w1, w1 = w.alloc (.cells (blobCs (sto p) h l.length A parts.length c) 61) := ⟨_, rfl⟩
  have B1 : Hid (Below w.heap.size w w1) := by rw [hw1]; exact (Below.refl _ _).alloc (Nat.le_refl _) _
  have H1 : Hid (Held w1 w.heap.size 61 (blobCs (sto p) h l.length A parts.length c)) := by rw [hw1]; exact Held.new _ _ _ rfl
  have TX := Lib.hid (blocks_any w1 (sto p) h l.length parts A _ c rfl (hi.below B1.out) hn ⟨p, rfl⟩)
  obtain ⟨d0, d1, d2, d3, _⟩ := H1.out.blob
  obtain ⟨sv, hsv⟩ : ∃ sv, sv = sto p := ⟨_, rfl⟩
  have HW := Lib.hid hw1
  clear hi hq hw1
  unfold blobV blobCs at *
  rw [← hsv] at d0 TX HW ⊢
  unfold sto at hsv
  subst hsv
  go_enter Try.func40, Try.ntmps40
  go_upto_region 1 with fail
  rw [← HW.out]
  clear HW H1
  go_wp2_with fail
  refine TX.out.mono ?_
  rintro e w2 ⟨A2, m2, c2, hm2, rfl, hi2, hb⟩
  have I2 := Lib.hid hi2
  have L2 := Lib.hid hm2
  have B2 : Hid (Below w.heap.size w w2) := B1.out.trans (hb.mono B1.out.size)
  have Q2 := Lib.hid (HQ.out.below B2.out HQ.out.lt)
  have cq : w2.cell? ⟨q, 0, none⟩ = some y := Q2.out.cell 0
  have zq := Q2.out.frozen 0
  clear hb TX hi2 hm2
  go_wp2_with fail
  go_end0
  exact ⟨rfl, w2, A2, m2, c2, L2.out, I2.out, B2.out, rfl⟩
set_option maxRecDepth 100000 in
set_option maxHeartbeats 1600000 in
/-- Blocks. -/
theorem bblocks_all (B : Nat) (w : World) (p n : Nat) (f : Nat → Option KB) (hm : MemAt B w p n f) (h : Nat) (parts l : List Nat) (t : There n f h parts l) :
    Calls Try.prog 24 #[sto p, .int .i64 (h : Int)] w fun e w' => ∃ A' m' c', m' = (allB h parts).length ∧ e = .returned (.tuple #[.slice A' m' c', .int .i64 0]) ∧ IntsAt w' A' (allB h parts) ∧ MemAt B w' p n f ∧ Kp B w w' := by
  obtain ⟨w1, hw1⟩ : ∃ w1, w1 = w.alloc (.cells #[.slice none 0 0] 59) := ⟨_, rfl⟩
  have B1 : Hid (Below w.heap.size w w1) := by rw [hw1]; exact (Below.refl _ _).alloc (Nat.le_refl _) _
  have Q1 : Hid (Held w1 w.heap.size 59 #[.slice none 0 0]) := by rw [hw1]; exact Held.new _ _ _ rfl
  have M1 := hm.under B1.out
  have VS := Lib.hid (visit_any B w1 p n f M1 h parts l t 40 #[.pointer (some ⟨w.heap.size, 0, none⟩)] (some w.heap.size) (fun v w2 => (∃ A' m' c', m' = (allB h parts).length ∧ v = .slice A' m' c' ∧ IntsAt w2 A' (allB h parts)) ∧ MemAt B w2 p n f ∧ Held w2 w.heap.size 59 #[.slice none 0 0]) (fun _ _ => False) (fun a u => rfl)
    (fun w2 A m c hmm hi hb => (blocks1_any B w2 p n f (M1.under hb) h parts l t A m c hmm hi t.few w.heap.size _ (Q1.out.below hb Q1.out.lt)).mono (fun e w3 ⟨he, w4, A4, m4, c4, hm4, hi4, hb4, hw4⟩ => .inl ⟨he, _, w4, ⟨⟨A4, m4, c4, hm4, rfl, hi4⟩, (M1.under hb).under hb4, (Q1.out.below hb Q1.out.lt).below hb4 (Nat.lt_of_lt_of_le Q1.out.lt hb.size)⟩, Kp.under hb4, hw4⟩)) (fun x hx => by injection hx with hx; subst hx; exact Q1.out.lt))
  have HW := Lib.hid hw1
  have LT : Hid (w.heap.size < w1.heap.size) := Q1.out.lt
  clear hm t M1 hw1
  obtain ⟨sv, hsv⟩ : ∃ sv, sv = sto p := ⟨_, rfl⟩
  rw [← hsv] at VS ⊢
  unfold sto at hsv
  subst hsv
  go_enter Try.func24, Try.ntmps24
  go_upto_region 1 with fail
  rw [← HW.out]
  clear HW
  go_wp2_with fail
  refine VS.out.mono ?_
  rintro e w' ⟨x, hx, ⟨rfl, v, w2, ⟨⟨A2, mm2, c2, hm2, rfl, i2⟩, m2, q2⟩, k2, x2, rfl⟩ | ⟨err, w2, o, _, hF, _⟩⟩
  · have ne : w.heap.size ≠ x := by have := LT.out; omega
    have I3 := Lib.hid ((i2.set_ q2 (by decide) 0 (.slice A2 mm2 c2)).set_ (x2.far (p := ⟨w.heap.size, 0, none⟩) (Ne.symm ne) (.slice A2 mm2 c2)) (by decide) 0 (.int .i64 0))
    have L3 := Lib.hid hm2
    have C := Lib.hid (closed (v := .slice A2 mm2 c2) (Kp.under B1.out) k2 q2 x2 (Nat.le_refl _) (Nat.le_trans (Nat.le_of_lt LT.out) hx) (T := 59) ⟨by decide, by decide, by decide⟩ ne m2)
    unfold setO
    simp only
    generalize (w2.setCell ⟨w.heap.size, 0, none⟩ (.slice A2 mm2 c2)).setCell ⟨x, 0, none⟩ (.int .i64 0) = u at *
    have cu : u.cell? ⟨w.heap.size, 0, none⟩ = some (.slice A2 mm2 c2) := C.out.1.cell 0
    have zu := C.out.1.frozen 0
    have C2 := Lib.hid (C.out.1.set_ 0 (.slice A2 mm2 c2))
    clear VS k2 x2 q2 m2 hx ne hm2 i2
    go_wp2_with fail
    refine bodyPost_ret (res_cell_tmp _ _ 5 4 59 (.int .i64 0) (.slice A2 mm2 c2) _ Try.results24 rfl rfl (load_one (Try.isAgg59 _) (C2.out.cell 0))) rfl ⟨A2, mm2, c2, L3.out, rfl, I3.out.set_ C.out.1 (by decide) 0 _, C.out.2.1.set_ C.out.1 (by decide) (by decide) (by decide) 0 _, C.out.2.2.new_ (Nat.le_refl _) 0 _⟩
  · exact hF.elim
end Go.Proofs.Ytlofpbmceipkkaa
