/-
  blob: ReadAt.
-/
import Derived.Test.YtlofpbmceipkkaaM18
namespace Go.Proofs.Ytlofpbmceipkkaa
open Go.RowKit Wal Blob

theorem wrap_add (s d z : Nat) (h : s + d = z) (hz : z ≤ 49152) : wrap64 ((s : Int) + (d : Int)) = (z : Int) := by unfold wrap64; omega
theorem wrap_sub (s L : Nat) (h : s ≤ L) (hL : L ≤ 49152) : wrap64 ((L : Int) - (s : Int)) = (L : Int) - (s : Int) := by unfold wrap64; omega
/-- From where, and how far, a piece reaches. -/
theorem mins (a k : Nat) (l : List Nat) (hl : l.length ≤ 49152) : ∃ s d z : Nat, s ≤ z ∧ z ≤ l.length ∧ min (a : Int) (l.length : Int) = (s : Int) ∧ min (k : Int) ((l.length : Int) - (s : Int)) = (d : Int) ∧ wrap64 ((s : Int) + (d : Int)) = (z : Int) ∧ (s : Int) + (d : Int) = (z : Int) ∧ wrap64 ((l.length : Int) - (s : Int)) = (l.length : Int) - (s : Int) ∧ (l.drop s).take (z - s) = (l.drop a).take k := by
  by_cases c : a ≤ l.length
  · have hd : (l.drop a).length = l.length - a := List.length_drop
    by_cases c2 : k ≤ l.length - a
    · refine ⟨a, k, a + k, by omega, by omega, by omega, by omega, wrap_add _ _ _ rfl (by omega), by omega, wrap_sub _ _ c hl, ?_⟩
      rw [Nat.add_sub_cancel_left]
    · refine ⟨a, l.length - a, l.length, by omega, by omega, by omega, by omega, wrap_add _ _ _ (by omega) hl, by omega, wrap_sub _ _ c hl, ?_⟩
      rw [List.take_of_length_le (by omega), List.take_of_length_le (by omega)]
  · refine ⟨l.length, 0, l.length, by omega, by omega, by omega, by omega, wrap_add _ _ _ rfl hl, by omega, wrap_sub _ _ (by omega) hl, ?_⟩
    rw [List.drop_eq_nil_of_le (by omega : l.length ≤ l.length), List.drop_eq_nil_of_le (by omega : l.length ≤ a), List.take_nil, List.take_nil]
set_option maxRecDepth 100000 in
set_option maxHeartbeats 1600000 in
theorem readat1_any (B : Nat) (w : World) (p n : Nat) (f : Nat → Option KB) (hm : MemAt B w p n f) (h : Nat) (parts l : List Nat) (t : There n f h parts l) (A : Option Addr) (m c : Nat) (hmm : m = parts.length) (hi : IntsAt w A parts) (q : Nat) (y : Value) (hq : Held w q 9 #[y]) (ba bk : Nat) (a k : Nat) (ha : Held w ba 3 #[.int .i64 (a : Int)]) (hk : Held w bk 3 #[.int .i64 (k : Int)]) :
    Calls Try.prog 22 #[blobV (sto p) h l.length A m c, .pointer (some ⟨ba, 0, none⟩), .pointer (some ⟨bk, 0, none⟩), .pointer (some ⟨q, 0, none⟩)] w fun e w3 => e = .returned (.tuple #[]) ∧ ∃ w2, Below w.heap.size w w2 ∧ w3 = w2.setCell ⟨q, 0, none⟩ (strV ((l.drop a).take k)) := by
  have HQ := Lib.hid hq
  subst hmm
  obtain ⟨w1, hw1⟩ : ∃ w1, w1 = w.alloc (.cells (blobCs (sto p) h l.length A parts.length c) 61) := ⟨_, rfl⟩
  have B1 : Hid (Below w.heap.size w w1) := by rw [hw1]; exact (Below.refl _ _).alloc (Nat.le_refl _) _
  have H1 : Hid (Held w1 w.heap.size 61 (blobCs (sto p) h l.length A parts.length c)) := by rw [hw1]; exact Held.new _ _ _ rfl
  have hl := t.most
  obtain ⟨s, d, z, b0, b1, e1, e2, e3, e4, e5, ET⟩ := mins a k l hl
  have TX := Lib.hid (btext_any B w1 p n f (hm.under B1.out) h parts l t A _ c rfl (hi.below B1.out) s z b0 b1)
  rw [ET] at TX
  have ca : w1.cell? ⟨ba, 0, none⟩ = some (.int .i64 (a : Int)) := (ha.below B1.out ha.lt).cell 0
  have ck : w1.cell? ⟨bk, 0, none⟩ = some (.int .i64 (k : Int)) := (hk.below B1.out hk.lt).cell 0
  clear ET ha hk
  obtain ⟨d0, d1, d2, d3, _⟩ := H1.out.blob
  obtain ⟨sv, hsv⟩ : ∃ sv, sv = sto p := ⟨_, rfl⟩
  have HW := Lib.hid hw1
  clear hm t hi hq hw1
  unfold blobV blobCs at *
  rw [← hsv] at d0 TX HW ⊢
  unfold sto at hsv
  subst hsv
  go_enter Try.func22, Try.ntmps22
  go_upto_region 1 with fail
  rw [← HW.out]
  clear HW H1
  go_wp2_with fail
  refine TX.out.mono ?_
  rintro e w2 ⟨rfl, hb⟩
  have B2 : Hid (Below w.heap.size w w2) := B1.out.trans (hb.mono B1.out.size)
  have Q2 := Lib.hid (HQ.out.below B2.out HQ.out.lt)
  have cq : w2.cell? ⟨q, 0, none⟩ = some y := Q2.out.cell 0
  have zq := Q2.out.frozen 0
  unfold strV
  clear hb TX
  go_wp2_with fail
  go_end0
  exact ⟨rfl, w2, B2.out, rfl⟩
set_option maxRecDepth 100000 in
set_option maxHeartbeats 1600000 in
/-- ReadAt: a piece. -/
theorem breadat_all (B : Nat) (w : World) (p n : Nat) (f : Nat → Option KB) (hm : MemAt B w p n f) (h : Nat) (parts l : List Nat) (t : There n f h parts l) (a k : Nat) :
    Calls Try.prog 11 #[sto p, .int .i64 (h : Int), .int .i64 (a : Int), .int .i64 (k : Int)] w fun e w' => e = .returned (.tuple #[strV ((l.drop a).take k), .int .i64 0]) ∧ MemAt B w' p n f ∧ Kp B w w' := by
  obtain ⟨w1, hw1⟩ : ∃ w1, w1 = ((w.alloc (.cells #[.int .i64 (a : Int)] 3)).alloc (.cells #[.int .i64 (k : Int)] 3)).alloc (.cells #[.string ⟨#[]⟩] 9) := ⟨_, rfl⟩
  have B1 : Hid (Below w.heap.size w w1) := by rw [hw1]; exact (((Below.refl _ _).alloc (Nat.le_refl _) _).alloc (by simp) _).alloc (by simp; omega) _
  have QA : Hid (Held w1 w.heap.size 3 #[.int .i64 (a : Int)]) := by rw [hw1]; exact ((Held.new w _ _ rfl).alloc _).alloc _
  have QK : Hid (Held w1 (w.heap.size + 1) 3 #[.int .i64 (k : Int)]) := by rw [hw1]; exact (Held.new _ _ _ (by simp)).alloc _
  have Q1 : Hid (Held w1 (w.heap.size + 1 + 1) 9 #[.string ⟨#[]⟩]) := by rw [hw1]; exact Held.new _ _ _ (by simp)
  have ca : w1.cell? ⟨w.heap.size, 0, none⟩ = some (.int .i64 (a : Int)) := QA.out.cell 0
  have ck : w1.cell? ⟨w.heap.size + 1, 0, none⟩ = some (.int .i64 (k : Int)) := QK.out.cell 0
  have na : ¬ (a : Int) < 0 := by omega
  have nk : ¬ (k : Int) < 0 := by omega
  have M1 := hm.under B1.out
  have VS := Lib.hid (visit_any B w1 p n f M1 h parts l t 22 #[.pointer (some ⟨w.heap.size, 0, none⟩), .pointer (some ⟨w.heap.size + 1, 0, none⟩), .pointer (some ⟨w.heap.size + 1 + 1, 0, none⟩)] (some (w.heap.size + 1 + 1)) (fun v w2 => v = strV ((l.drop a).take k) ∧ MemAt B w2 p n f ∧ Held w2 (w.heap.size + 1 + 1) 9 #[.string ⟨#[]⟩]) (fun _ _ => False) (fun a u => rfl)
    (fun w2 A m c hmm hi hb => (readat1_any B w2 p n f (M1.under hb) h parts l t A m c hmm hi (w.heap.size + 1 + 1) _ (Q1.out.below hb Q1.out.lt) _ _ a k (QA.out.below hb QA.out.lt) (QK.out.below hb QK.out.lt)).mono (fun e w3 ⟨he, w4, hb4, hw4⟩ => .inl ⟨he, _, w4, ⟨rfl, (M1.under hb).under hb4, (Q1.out.below hb Q1.out.lt).below hb4 (Nat.lt_of_lt_of_le Q1.out.lt hb.size)⟩, Kp.under hb4, hw4⟩)) (fun x hx => by injection hx with hx; subst hx; exact Q1.out.lt))
  have HW := Lib.hid hw1
  have LT : Hid (w.heap.size + 1 + 1 < w1.heap.size) := Q1.out.lt
  clear hm t M1 hw1
  obtain ⟨sv, hsv⟩ : ∃ sv, sv = sto p := ⟨_, rfl⟩
  rw [← hsv] at VS ⊢
  unfold sto at hsv
  subst hsv
  go_enter Try.func11, Try.ntmps11
  go_upto_region 1 with fail
  rw [← HW.out]
  clear HW
  go_wp2_with fail
  refine VS.out.mono ?_
  rintro e w' ⟨x, hx, ⟨rfl, v, w2, ⟨rfl, m2, q2⟩, k2, x2, rfl⟩ | ⟨err, w2, o, _, hF, _⟩⟩
  · have ne : w.heap.size + 1 + 1 ≠ x := by have := LT.out; omega
    have C := Lib.hid (closed (v := strV ((l.drop a).take k)) (Kp.under B1.out) k2 q2 x2 (by omega) (Nat.le_trans (by have := LT.out; omega) hx) (T := 9) ⟨by decide, by decide, by decide⟩ ne m2)
    unfold setO
    simp only
    generalize (w2.setCell ⟨w.heap.size + 1 + 1, 0, none⟩ (strV ((l.drop a).take k))).setCell ⟨x, 0, none⟩ (.int .i64 0) = u at *
    have cu : u.cell? ⟨w.heap.size + 1 + 1, 0, none⟩ = some (strV ((l.drop a).take k)) := C.out.1.cell 0
    have zu := C.out.1.frozen 0
    have C2 := Lib.hid (C.out.1.set_ 0 (strV ((l.drop a).take k)))
    unfold strV at *
    clear VS k2 x2 q2 m2 hx ne
    go_wp2_with fail
    refine bodyPost_ret (res_cell_tmp _ _ 9 8 9 (.int .i64 0) (.string (strB ((l.drop a).take k))) _ Try.results11 rfl rfl (load_one (Try.isAgg9 _) (C2.out.cell 0))) rfl ⟨rfl, C.out.2.1.set_ C.out.1 (by decide) (by decide) (by decide) 0 _, C.out.2.2.new_ (by omega) 0 _⟩
  · exact hF.elim
set_option maxRecDepth 100000 in
/-- ReadAt: from a number below 0 on, or so many. -/
theorem breadat_bad (w : World) (p : Nat) (h a k : Int) (hb : a < 0 ∨ k < 0) :
    Calls Try.prog 11 #[sto p, .int .i64 h, .int .i64 a, .int .i64 k] w fun e w' => e = .returned (.tuple #[strV [], .int .i64 1]) ∧ Below w.heap.size w w' := by
  obtain ⟨w1, hw1⟩ : ∃ w1, w1 = ((w.alloc (.cells #[.int .i64 a] 3)).alloc (.cells #[.int .i64 k] 3)).alloc (.cells #[.string ⟨#[]⟩] 9) := ⟨_, rfl⟩
  have B1 : Hid (Below w.heap.size w w1) := by rw [hw1]; exact (((Below.refl _ _).alloc (Nat.le_refl _) _).alloc (by simp) _).alloc (by simp; omega) _
  have ca : w1.cell? ⟨w.heap.size, 0, none⟩ = some (.int .i64 a) := by rw [hw1]; exact (((Held.new w _ _ rfl).alloc _).alloc _).cell 0
  have ck : w1.cell? ⟨w.heap.size + 1, 0, none⟩ = some (.int .i64 k) := by rw [hw1]; exact ((Held.new _ 3 #[.int .i64 k] (by simp)).alloc _).cell 0
  have HQ : Hid (Held w1 (w.heap.size + 1 + 1) 9 #[.string ⟨#[]⟩]) := by rw [hw1]; exact Held.new _ _ _ (by simp)
  have cq : w1.cell? ⟨w.heap.size + 1 + 1, 0, none⟩ = some (.string ⟨#[]⟩) := HQ.out.cell 0
  have zq := HQ.out.frozen 0
  have C2 := Lib.hid (HQ.out.set_ 0 (.string ⟨#[]⟩))
  have B2 : Hid (Below w.heap.size w (w1.setCell ⟨w.heap.size + 1 + 1, 0, none⟩ (.string ⟨#[]⟩))) := B1.out.setCell (p := ⟨w.heap.size + 1 + 1, 0, none⟩) (by show w.heap.size ≤ w.heap.size + 1 + 1; omega) _
  have HW := Lib.hid hw1
  clear hw1
  unfold sto
  by_cases na : a < 0
  · clear hb
    go_enter Try.func11, Try.ntmps11
    go_upto_region 1 with fail
    rw [← HW.out]
    clear HW
    go_wp2_with fail
    refine bodyPost_ret (res_cell_tmp _ _ 9 8 9 (.int .i64 1) (.string ⟨#[]⟩) _ Try.results11 rfl rfl (load_one (Try.isAgg9 _) (C2.out.cell 0))) rfl ⟨rfl, B2.out⟩
  · have nk : k < 0 := by omega
    clear hb
    go_enter Try.func11, Try.ntmps11
    go_upto_region 1 with fail
    rw [← HW.out]
    clear HW
    go_wp2_with fail
    refine bodyPost_ret (res_cell_tmp _ _ 9 8 9 (.int .i64 1) (.string ⟨#[]⟩) _ Try.results11 rfl rfl (load_one (Try.isAgg9 _) (C2.out.cell 0))) rfl ⟨rfl, B2.out⟩
end Go.Proofs.Ytlofpbmceipkkaa
