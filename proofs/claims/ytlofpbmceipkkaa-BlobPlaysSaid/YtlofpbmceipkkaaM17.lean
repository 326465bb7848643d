/-
  blob: Read, Size.
-/
import Derived.Test.YtlofpbmceipkkaaM16
namespace Go.Proofs.Ytlofpbmceipkkaa
open Go.RowKit Wal Blob

theorem res_cell_tmp {P : Program} {f : Func} (tm : Array Value) (w : World) (i j T : Nat) (x v : Value) (p : Addr) (hf : f.results = #[.cell j T, .tmp i]) (h2 : tm.getD i undef = x) (h3 : tm.getD j undef = .pointer (some p)) (lv : (loadVar T p).run P w = .ok v w) :
    (results f tm).run P w = .ok (.tuple #[v, x]) w := by
  unfold results
  rw [hf]
  rw [Array.getD_eq_getD_getElem?] at h2 h3
  simp [h2, h3, asAddr, lv]
/-- No type of a store's. -/
def Else (T : Nat) : Prop := T ≠ 54 ∧ T ≠ 93 ∧ T ≠ 152
theorem else_errno : Else 32 := ⟨by decide, by decide, by decide⟩
section
variable {B : Nat} {w w1 w2 : World} {p n q x T : Nat} {f : Nat → Option KB} {y v : Value}
/-- What lies there behind a visit. -/
theorem closed (k1 : Kp B w w1) (k2 : Kp B w1 w2) (hq : Held w2 q T #[y]) (hx : Held w2 x 32 #[.int .i64 0]) (hqw : w.heap.size ≤ q) (hxw : w.heap.size ≤ x) (hT : Else T) (ne : q ≠ x) (m : MemAt B w2 p n f) :
    Held ((w2.setCell ⟨q, 0, none⟩ v).setCell ⟨x, 0, none⟩ (.int .i64 0)) q T #[v] ∧ MemAt B ((w2.setCell ⟨q, 0, none⟩ v).setCell ⟨x, 0, none⟩ (.int .i64 0)) p n f ∧ Kp B w ((w2.setCell ⟨q, 0, none⟩ v).setCell ⟨x, 0, none⟩ (.int .i64 0)) := by
  have h1 : Held (w2.setCell ⟨q, 0, none⟩ v) q T #[v] := hq.set_ 0 v
  have h2 : Held (w2.setCell ⟨q, 0, none⟩ v) x 32 #[.int .i64 0] := hx.far (p := ⟨q, 0, none⟩) (Ne.symm ne) v
  exact ⟨h1.far (p := ⟨x, 0, none⟩) ne _, (m.set_ hq hT.1 hT.2.1 hT.2.2 0 v).set_ h2 else_errno.1 else_errno.2.1 else_errno.2.2 0 _, ((k1.trans k2).new_ hqw 0 v).new_ hxw 0 _⟩
end
set_option maxRecDepth 100000 in
theorem read1_any (B : Nat) (w : World) (p n : Nat) (f : Nat → Option KB) (hm : MemAt B w p n f) (h : Nat) (parts l : List Nat) (t : There n f h parts l) (A : Option Addr) (m c : Nat) (hmm : m = parts.length) (hi : IntsAt w A parts) (q : Nat) (y : Value) (hq : Held w q 9 #[y]) :
    Calls Try.prog 30 #[blobV (sto p) h l.length A m c, .pointer (some ⟨q, 0, none⟩)] w fun e w3 => e = .returned (.tuple #[]) ∧ ∃ w2, Below w.heap.size w w2 ∧ w3 = w2.setCell ⟨q, 0, none⟩ (strV l) := by
  have HQ := Lib.hid hq
  subst hmm
  obtain ⟨w1, hw1⟩ : ∃ w1, w1 = w.alloc (.cells (blobCs (sto p) h l.length A parts.length c) 61) := ⟨_, rfl⟩
  have B1 : Hid (Below w.heap.size w w1) := by rw [hw1]; exact (Below.refl _ _).alloc (Nat.le_refl _) _
  have H1 : Hid (Held w1 w.heap.size 61 (blobCs (sto p) h l.length A parts.length c)) := by rw [hw1]; exact Held.new _ _ _ rfl
  have TX := Lib.hid (btext_any B w1 p n f (hm.under B1.out) h parts l t A _ c rfl (hi.below B1.out) 0 l.length (by omega) (by omega))
  rw [List.drop_zero, Nat.sub_zero, List.take_of_length_le (Nat.le_refl _)] at TX
  obtain ⟨d0, d1, d2, d3, _⟩ := H1.out.blob
  obtain ⟨sv, hsv⟩ : ∃ sv, sv = sto p := ⟨_, rfl⟩
  have HW := Lib.hid hw1
  clear hm t hi hq hw1
  unfold blobV blobCs at *
  rw [← hsv] at d0 TX HW ⊢
  unfold sto at hsv
  subst hsv
  go_enter Try.func30, Try.ntmps30
  go_upto_region 1 with fail
  rw [← HW.out]
  clear HW H1
  go_wp2_with fail
  refine TX.out.mono ?_
  rintro e w2 ⟨rfl, hb⟩
  have B2 : Hid (Below w.heap.size w w2) := B1.out.trans (hb.mono B1.out.size)
  have Q2 := Lib.hid (HQ.out.below B2.out HQ.out.lt)
  have cq : w2.cell? ⟨q, 0, none⟩ = some y := Q2.out.cell 0
  have zq := Q2.out.frozen 0
  unfold strV
  clear hb TX
  go_wp2_with fail
  go_end0
  exact ⟨rfl, w2, B2.out, rfl⟩
set_option maxRecDepth 100000 in
set_option maxHeartbeats 1600000 in
/-- Read: the text. -/
theorem bread_all (B : Nat) (w : World) (p n : Nat) (f : Nat → Option KB) (hm : MemAt B w p n f) (h : Nat) (parts l : List Nat) (t : There n f h parts l) :
    Calls Try.prog 18 #[sto p, .int .i64 (h : Int)] w fun e w' => e = .returned (.tuple #[strV l, .int .i64 0]) ∧ MemAt B w' p n f ∧ Kp B w w' := by
  obtain ⟨w1, hw1⟩ : ∃ w1, w1 = w.alloc (.cells #[.string ⟨#[]⟩] 9) := ⟨_, rfl⟩
  have B1 : Hid (Below w.heap.size w w1) := by rw [hw1]; exact (Below.refl _ _).alloc (Nat.le_refl _) _
  have Q1 : Hid (Held w1 w.heap.size 9 #[.string ⟨#[]⟩]) := by rw [hw1]; exact Held.new _ _ _ rfl
  have M1 := hm.under B1.out
  have VS := Lib.hid (visit_any B w1 p n f M1 h parts l t 30 #[.pointer (some ⟨w.heap.size, 0, none⟩)] (some w.heap.size) (fun v w2 => v = strV l ∧ MemAt B w2 p n f ∧ Held w2 w.heap.size 9 #[.string ⟨#[]⟩]) (fun _ _ => False) (fun a u => rfl)
    (fun w2 A m c hmm hi hb => (read1_any B w2 p n f (M1.under hb) h parts l t A m c hmm hi w.heap.size _ (Q1.out.below hb Q1.out.lt)).mono (fun e w3 ⟨he, w4, hb4, hw4⟩ => .inl ⟨he, _, w4, ⟨rfl, (M1.under hb).under hb4, (Q1.out.below hb Q1.out.lt).below hb4 (Nat.lt_of_lt_of_le Q1.out.lt hb.size)⟩, Kp.under hb4, hw4⟩)) (fun x hx => by injection hx with hx; subst hx; exact Q1.out.lt))
  have HW := Lib.hid hw1
  have LT : Hid (w.heap.size < w1.heap.size) := Q1.out.lt
  clear hm t M1 hw1
  obtain ⟨sv, hsv⟩ : ∃ sv, sv = sto p := ⟨_, rfl⟩
  rw [← hsv] at VS ⊢
  unfold sto at hsv
  subst hsv
  go_enter Try.func18, Try.ntmps18
  go_upto_region 1 with fail
  rw [← HW.out]
  clear HW
  go_wp2_with fail
  refine VS.out.mono ?_
  rintro e w' ⟨x, hx, ⟨rfl, v, w2, ⟨rfl, m2, q2⟩, k2, x2, rfl⟩ | ⟨err, w2, o, _, hF, _⟩⟩
  · have ne : w.heap.size ≠ x := by have := LT.out; omega
    have C := Lib.hid (closed (v := strV l) (Kp.under B1.out) k2 q2 x2 (Nat.le_refl _) (Nat.le_trans (Nat.le_of_lt LT.out) hx) (T := 9) ⟨by decide, by decide, by decide⟩ ne m2)
    unfold setO
    simp only
    generalize (w2.setCell ⟨w.heap.size, 0, none⟩ (strV l)).setCell ⟨x, 0, none⟩ (.int .i64 0) = u at *
    have cu : u.cell? ⟨w.heap.size, 0, none⟩ = some (strV l) := C.out.1.cell 0
    have zu := C.out.1.frozen 0
    have C2 := Lib.hid (C.out.1.set_ 0 (strV l))
    unfold strV at *
    clear VS k2 x2 q2 m2 hx ne
    go_wp2_with fail
    refine bodyPost_ret (res_cell_tmp _ _ 5 4 9 (.int .i64 0) (.string (strB l)) _ Try.results18 rfl rfl (load_one (Try.isAgg9 _) (C2.out.cell 0))) rfl ⟨rfl, C.out.2.1.set_ C.out.1 (by decide) (by decide) (by decide) 0 _, C.out.2.2.new_ (Nat.le_refl _) 0 _⟩
  · exact hF.elim
end Go.Proofs.Ytlofpbmceipkkaa
