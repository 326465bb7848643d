/-
  blob: Write.
-/
import Derived.Test.YtlofpbmceipkkaaM27
namespace Go.Proofs.Ytlofpbmceipkkaa
open Go.RowKit Wal Blob

/-- What Write and Clone leave. -/
def WroteE (B : Nat) (w : World) (p n : Nat) (f : Nat → Option KB) (l : List Nat) (e : Ending) (w' : World) : Prop :=
  (∃ (h : Nat) (parts : List Nat) (f' : Nat → Option KB), e = .returned (.tuple #[.int .i64 (h : Int), .int .i64 0]) ∧ MemAt B w' p n f' ∧ Kp B w w' ∧ Laid n f f' h parts l) ∨
  (e = .returned (.tuple #[.int .i64 0, .int .i64 12]) ∧ MemAt B w' p n f ∧ Kp B w w' ∧ n < cnt n f + needL l.length)
set_option maxRecDepth 100000 in
theorem write1_any (B : Nat) (w : World) (hBw : B ≤ w.heap.size) (p n : Nat) (f : Nat → Option KB) (hm : MemAt B w p n f) (l : List Nat) (h2 : l.length ≤ 49152) (hb : ∀ x ∈ l, x < 256) (b0 b1 q : Nat) (g0 : Held w b0 56 #[sto p]) (g1 : Held w b1 9 #[strV l]) (y : Value) (g2 : Held w q 3 #[y]) :
    Calls Try.prog 26 #[.pointer (some ⟨b0, 0, none⟩), .pointer (some ⟨b1, 0, none⟩), .pointer (some ⟨q, 0, none⟩)] w fun e w3 =>
      (e = .returned (.tuple #[]) ∧ ∃ (h : Nat) (parts : List Nat) (f' : Nat → Option KB) (w2 : World), MemAt B w2 p n f' ∧ Kp B w w2 ∧ Laid n f f' h parts l ∧ w3 = w2.setCell ⟨q, 0, none⟩ (.int .i64 (h : Int))) ∨
      (e = panicsWith 12 ∧ MemAt B w3 p n f ∧ Kp B w w3 ∧ n < cnt n f + needL l.length) := by
  have LY := Lib.hid (lay_any B w hBw p n f hm l h2 hb)
  have c0 : w.cell? ⟨b0, 0, none⟩ = some (sto p) := g0.cell 0
  have c1 : w.cell? ⟨b1, 0, none⟩ = some (strV l) := g1.cell 0
  have G2 := Lib.hid g2
  obtain ⟨sv, hsv⟩ : ∃ sv, sv = sto p := ⟨_, rfl⟩
  rw [← hsv] at c0 LY
  unfold sto at hsv
  subst hsv
  unfold strV at c1 LY
  clear hm hb g0 g1 g2
  go_enter Try.func26, Try.ntmps26
  go_wp2_with fail
  refine LY.out.mono ?_
  rintro e w' (⟨h, parts, f', rfl, m, k, la⟩ | ⟨rfl, m, k, hs⟩)
  · have R := Lib.hid (And.intro m (And.intro k la))
    have Q2 := Lib.hid (k.held G2.out (by decide) (by decide))
    have cq : w'.cell? ⟨q, 0, none⟩ = some y := Q2.out.cell 0
    have zq := Q2.out.frozen 0
    clear m k la LY
    go_wp2_with fail
    go_end0
    exact .inl ⟨rfl, h, parts, f', w', R.out.1, R.out.2.1, R.out.2.2, rfl⟩
  · have R := Lib.hid (And.intro m (And.intro k hs))
    clear m k hs LY
    unfold panicsWith
    go_wp2_with fail
    exact ⟨rfl, .inr ⟨rfl, R.out.1, R.out.2.1, R.out.2.2⟩⟩
set_option maxRecDepth 100000 in
set_option maxHeartbeats 1600000 in
/-- Write: too long. -/
theorem write_long (w : World) (p : Nat) (s : ByteArray) (h2 : 49152 < s.size) :
    Calls Try.prog 14 #[sto p, .string s] w fun e w' => e = .returned (.tuple #[.int .i64 0, .int .i64 5]) ∧ Below w.heap.size w w' := by
  obtain ⟨w1, hw1⟩ : ∃ w1, w1 = ((w.alloc (.cells #[sto p] 56)).alloc (.cells #[.string s] 9)).alloc (.cells #[.int .i64 0] 3) := ⟨_, rfl⟩
  have B1 : Hid (Below w.heap.size w w1) := by rw [hw1]; exact (((Below.refl _ _).alloc (Nat.le_refl _) _).alloc (by simp) _).alloc (by simp; omega) _
  have G0 : Held w1 w.heap.size 56 #[sto p] := by rw [hw1]; exact ((Held.new w _ _ rfl).alloc _).alloc _
  have G1 : Held w1 (w.heap.size + 1) 9 #[.string s] := by rw [hw1]; exact (Held.new _ _ _ (by simp)).alloc _
  have GQ : Hid (Held w1 (w.heap.size + 1 + 1) 3 #[.int .i64 0]) := by rw [hw1]; exact Held.new _ _ _ (by simp)
  have c0 : w1.cell? ⟨w.heap.size, 0, none⟩ = some (sto p) := G0.cell 0
  have c1 : w1.cell? ⟨w.heap.size + 1, 0, none⟩ = some (.string s) := G1.cell 0
  have cq : w1.cell? ⟨w.heap.size + 1 + 1, 0, none⟩ = some (.int .i64 0) := GQ.out.cell 0
  have zq := GQ.out.frozen 0
  have C2 := Lib.hid (GQ.out.set_ 0 (.int .i64 0))
  have B2 : Hid (Below w.heap.size w (w1.setCell ⟨w.heap.size + 1 + 1, 0, none⟩ (.int .i64 0))) := B1.out.setCell (p := ⟨w.heap.size + 1 + 1, 0, none⟩) (by show w.heap.size ≤ w.heap.size + 1 + 1; omega) _
  have hl : (49152 : Int) < (s.size : Int) := by omega
  have HW := Lib.hid hw1
  obtain ⟨sv, hsv⟩ : ∃ sv, sv = sto p := ⟨_, rfl⟩
  rw [← hsv] at c0 HW ⊢
  unfold sto at hsv
  subst hsv
  clear hw1 G0 G1 h2
  go_enter Try.func14, Try.ntmps14
  go_upto_region 1 with fail
  rw [← HW.out]
  clear HW
  go_wp2_with fail
  refine bodyPost_ret (res_cell_tmp _ _ 5 4 3 (.int .i64 5) (.int .i64 0) _ Try.results14 rfl rfl (load_one (Try.isAgg3 _) (C2.out.cell 0))) rfl ⟨rfl, B2.out⟩
set_option maxRecDepth 100000 in
set_option maxHeartbeats 1600000 in
/-- Write. -/
theorem bwrite_all (B : Nat) (w : World) (hBw : B ≤ w.heap.size) (p n : Nat) (f : Nat → Option KB) (hm : MemAt B w p n f) (l : List Nat) (h2 : l.length ≤ 49152) (hb : ∀ x ∈ l, x < 256) :
    Calls Try.prog 14 #[sto p, strV l] w (WroteE B w p n f l) := by
  obtain ⟨w1, hw1⟩ : ∃ w1, w1 = ((w.alloc (.cells #[sto p] 56)).alloc (.cells #[strV l] 9)).alloc (.cells #[.int .i64 0] 3) := ⟨_, rfl⟩
  have B1 : Hid (Below w.heap.size w w1) := by rw [hw1]; exact (((Below.refl _ _).alloc (Nat.le_refl _) _).alloc (by simp) _).alloc (by simp; omega) _
  have G0 : Hid (Held w1 w.heap.size 56 #[sto p]) := by rw [hw1]; exact ((Held.new w _ _ rfl).alloc _).alloc _
  have G1 : Hid (Held w1 (w.heap.size + 1) 9 #[strV l]) := by rw [hw1]; exact (Held.new _ _ _ (by simp)).alloc _
  have GQ : Hid (Held w1 (w.heap.size + 1 + 1) 3 #[.int .i64 0]) := by rw [hw1]; exact Held.new _ _ _ (by simp)
  have c0 : w1.cell? ⟨w.heap.size, 0, none⟩ = some (sto p) := G0.out.cell 0
  have c1 : w1.cell? ⟨w.heap.size + 1, 0, none⟩ = some (strV l) := G1.out.cell 0
  have EC : Hid (Below w1.heap.size w1 (w1.alloc (.cells #[.int .i64 0] 32))) := (Below.refl _ _).alloc (Nat.le_refl _) _
  have KE : Hid (Held (w1.alloc (.cells #[.int .i64 0] 32)) w1.heap.size 32 #[.int .i64 0]) := Held.new _ _ _ rfl
  have LT : Hid (w.heap.size + 1 + 1 < w1.heap.size) := GQ.out.lt
  have QE : Hid (Held (w1.alloc (.cells #[.int .i64 0] 32)) (w.heap.size + 1 + 1) 3 #[.int .i64 0]) := GQ.out.below EC.out GQ.out.lt
  have W1 := write1_any B (w1.alloc (.cells #[.int .i64 0] 32)) (by have := B1.out.size; simp; omega) p n f ((hm.under B1.out).under EC.out) l h2 hb w.heap.size (w.heap.size + 1) (w.heap.size + 1 + 1) (G0.out.below EC.out G0.out.lt) (G1.out.below EC.out G1.out.lt) _ QE.out
  have AT := Lib.hid (attempt_any 26 #[.pointer (some ⟨w.heap.size, 0, none⟩), .pointer (some ⟨w.heap.size + 1, 0, none⟩), .pointer (some ⟨w.heap.size + 1 + 1, 0, none⟩)] w1
    (fun w3 => ∃ (h : Nat) (parts : List Nat) (f' : Nat → Option KB) (w2 : World), MemAt B w2 p n f' ∧ Kp B w w2 ∧ Laid n f f' h parts l ∧ Held w2 w1.heap.size 32 #[.int .i64 0] ∧ Held w2 (w.heap.size + 1 + 1) 3 #[.int .i64 0] ∧ w3 = w2.setCell ⟨w.heap.size + 1 + 1, 0, none⟩ (.int .i64 (h : Int)))
    (fun err w3 => err = 12 ∧ MemAt B w3 p n f ∧ Kp B w w3 ∧ n < cnt n f + needL l.length ∧ Held w3 w1.heap.size 32 #[.int .i64 0] ∧ Held w3 (w.heap.size + 1 + 1) 3 #[.int .i64 0]) (fun u => rfl)
    (W1.mono fun e w3 hh => by
      have K0 : Kp B w (w1.alloc (.cells #[.int .i64 0] 32)) := (Kp.under B1.out).trans (Kp.under EC.out)
      have nx : w1.heap.size ≠ w.heap.size + 1 + 1 := by have := LT.out; omega
      rcases hh with ⟨rfl, h, parts, f', w2, m, k, la, rfl⟩ | ⟨rfl, m, k, hs⟩
      · have hx := k.held KE.out (by decide) (by decide)
        exact ⟨hx.far (p := ⟨w.heap.size + 1 + 1, 0, none⟩) nx _, .inl ⟨rfl, h, parts, f', w2, m, K0.trans k, la, hx, k.held QE.out (by decide) (by decide), rfl⟩⟩
      · have hx := k.held KE.out (by decide) (by decide)
        exact ⟨hx, .inr ⟨12, rfl, rfl, m, K0.trans k, hs, hx, k.held QE.out (by decide) (by decide)⟩⟩))
  have hl : ¬ (49152 : Int) < (l.length : Int) := by omega
  have sz := strB_size l
  have HW := Lib.hid hw1
  obtain ⟨sv, hsv⟩ : ∃ sv, sv = sto p := ⟨_, rfl⟩
  rw [← hsv] at c0 HW ⊢
  unfold sto at hsv
  subst hsv
  unfold strV at c1 HW ⊢
  clear hw1 W1 hm hb
  go_enter Try.func14, Try.ntmps14
  go_upto_region 1 with fail
  rw [← HW.out]
  clear HW
  go_wp2_with fail
  refine AT.out.mono ?_
  rintro e w' ⟨w3, ⟨⟨h, parts, f', w2, m, k, la, hx, hq, rfl⟩, rfl, rfl⟩ | ⟨err, o, ⟨rfl, m, k, hs, hx, hq⟩, rfl, rfl⟩⟩
  · have C := Lib.hid (closed (v := .int .i64 (h : Int)) (Kp.refl B w) k hq hx (by omega) (by have := LT.out; omega) (T := 3) ⟨by decide, by decide, by decide⟩ (by have := LT.out; omega) m)
    have LA := Lib.hid la
    generalize (w2.setCell ⟨w.heap.size + 1 + 1, 0, none⟩ (.int .i64 (h : Int))).setCell ⟨w1.heap.size, 0, none⟩ (.int .i64 0) = u at *
    have cu : u.cell? ⟨w.heap.size + 1 + 1, 0, none⟩ = some (.int .i64 (h : Int)) := C.out.1.cell 0
    have zu := C.out.1.frozen 0
    have C2 := Lib.hid (C.out.1.set_ 0 (.int .i64 (h : Int)))
    clear m k la hx hq AT c0 c1
    go_wp2_with fail
    refine bodyPost_ret (res_cell_tmp _ _ 5 4 3 (.int .i64 0) (.int .i64 (h : Int)) _ Try.results14 rfl rfl (load_one (Try.isAgg3 _) (C2.out.cell 0))) rfl (.inl ⟨h, parts, f', rfl, C.out.2.1.set_ C.out.1 (by decide) (by decide) (by decide) 0 _, C.out.2.2.new_ (by omega) 0 _, LA.out⟩)
  · have BO : Below w3.heap.size w3 (w3.alloc o) := (Below.refl _ _).alloc (Nat.le_refl _) _
    have hx' := hx.below BO hx.lt
    have UM := Lib.hid (KeptErr hx' (m.under BO) (.int .i64 12))
    have UK := Lib.hid ((k.alloc o).new_ (by have := LT.out; omega : w.heap.size ≤ w1.heap.size) 0 (.int .i64 12))
    have UQ := Lib.hid ((hq.below BO hq.lt).far (p := ⟨w1.heap.size, 0, none⟩) (by have := LT.out; show w.heap.size + 1 + 1 ≠ w1.heap.size; omega) (.int .i64 12))
    have HS2 := Lib.hid hs
    generalize (w3.alloc o).setCell ⟨w1.heap.size, 0, none⟩ (.int .i64 12) = u at *
    have cu : u.cell? ⟨w.heap.size + 1 + 1, 0, none⟩ = some (.int .i64 0) := UQ.out.cell 0
    have zu := UQ.out.frozen 0
    have C2 := Lib.hid (UQ.out.set_ 0 (.int .i64 0))
    clear m k hs hx hx' hq BO AT c0 c1
    go_wp2_with fail
    refine bodyPost_ret (res_cell_tmp _ _ 5 4 3 (.int .i64 12) (.int .i64 0) _ Try.results14 rfl rfl (load_one (Try.isAgg3 _) (C2.out.cell 0))) rfl (.inr ⟨rfl, UM.out.set_ UQ.out (by decide) (by decide) (by decide) 0 _, UK.out.new_ (by omega) 0 _, HS2.out⟩)
end Go.Proofs.Ytlofpbmceipkkaa
