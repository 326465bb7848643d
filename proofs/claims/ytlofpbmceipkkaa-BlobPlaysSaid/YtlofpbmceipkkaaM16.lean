/-
  blob: visit.
-/
import Derived.Test.YtlofpbmceipkkaaM15
namespace Go.Proofs.Ytlofpbmceipkkaa
open Go.RowKit Wal Blob

theorem MemAt.set_ {B : Nat} {w : World} {p n : Nat} {f : Nat → Option KB} (h : MemAt B w p n f) {r T : Nat} {cs : Array Value} (hr : Held w r T cs) (h1 : T ≠ 54) (h2 : T ≠ 93) (h3 : T ≠ 152) (i : Nat) (v : Value) : MemAt B (w.setCell ⟨r, i, none⟩ v) p n f := by
  obtain ⟨g, ad, h⟩ := h
  refine ⟨g, ad, h.blk.far (p := ⟨r, i, none⟩) (Held.ne_ h.blk hr (Ne.symm h1)) v, h.row.far (p := ⟨r, i, none⟩) (Held.ne_ h.row hr (Ne.symm h2)) v, fun j k hk => ?_, h.inj, h.base, h.small⟩
  obtain ⟨a1, a2, a3⟩ := h.each j k hk
  exact ⟨a1, a2.far (p := ⟨r, i, none⟩) (Held.ne_ a2 hr (Ne.symm h3)) v, a3⟩
theorem Kp.new_ {B : Nat} {w w' : World} (h : Kp B w w') {r : Nat} (hr : w.heap.size ≤ r) (i : Nat) (v : Value) : Kp B w (w'.setCell ⟨r, i, none⟩ v) :=
  ⟨h.os, h.tape, h.output, by simp [World.setCell]; exact h.size, fun k hk hf => (Below.heap_setCell _ _ _ _ (by show k ≠ r; omega)).trans (h.block k hk hf)⟩
theorem Kp.alloc {B : Nat} {w w' : World} (h : Kp B w w') (o : Obj) : Kp B w (w'.alloc o) := h.trans (Kp.under ((Below.refl _ _).alloc (Nat.le_refl _) _))
/-- The result's cell, if there is one. -/
def setO (q : Option Nat) (v : Value) (w : World) : World := match q with
  | none => w
  | some q => w.setCell ⟨q, 0, none⟩ v
theorem setO_heap (q : Option Nat) (v : Value) (w : World) (k : Nat) (hk : ∀ x, q = some x → k ≠ x) : (setO q v w).heap[k]? = w.heap[k]? := by
  cases q with
  | none => rfl
  | some q => exact Below.heap_setCell _ _ _ _ (hk q rfl)
def panicsWith (err : Int) : Ending := .panicked [{ v := troubleV err, recovered := false }]
def Work (B : Nat) (q : Option Nat) (R : Value → World → Prop) (RB : Int → World → Prop) (w2 : World) (e : Ending) (w3 : World) : Prop :=
  (e = .returned (.tuple #[]) ∧ ∃ v w2', R v w2' ∧ Kp B w2 w2' ∧ w3 = setO q v w2') ∨ (∃ err, e = panicsWith err ∧ RB err w3 ∧ Kp B w2 w3)
set_option maxRecDepth 100000 in
set_option maxHeartbeats 1600000 in
theorem visit1_any (B : Nat) (w : World) (p n : Nat) (f : Nat → Option KB) (hm : MemAt B w p n f) (h : Nat) (parts l : List Nat) (t : There n f h parts l) (k : FuncId) (caps : Array Value) (q : Option Nat) (R : Value → World → Prop) (RB : Int → World → Prop)
    (hk : ∀ a u, (callFunc k (#[a] ++ caps)).run Try.prog u = .ok (.enter k (#[a] ++ caps)) u)
    (hw : ∀ w2 A m c, m = parts.length → IntsAt w2 A parts → Below w.heap.size w w2 → Calls Try.prog k (#[blobV (sto p) h l.length A m c] ++ caps) w2 (Work B q R RB w2))
    (b0 b1 b2 : Nat) (g2 : Held w b2 58 #[.func (.func k) #[] caps]) (g0 : Held w b0 56 #[sto p]) (g1 : Held w b1 3 #[.int .i64 (h : Int)]) (hq : ∀ x, q = some x → b2 ≠ x ∧ b0 ≠ x ∧ b1 ≠ x) :
    Calls Try.prog 32 #[.pointer (some ⟨b2, 0, none⟩), .pointer (some ⟨b0, 0, none⟩), .pointer (some ⟨b1, 0, none⟩)] w (Work B q R RB w) := by
  have FD := Lib.hid (find_is B w.drew p n f (hm.under (Below.refl _ _).drew) h parts l t)
  have HW := Lib.hid hw
  have c2 : w.cell? ⟨b2, 0, none⟩ = some (.func (.func k) #[] caps) := g2.cell 0
  have c0 : w.cell? ⟨b0, 0, none⟩ = some (sto p) := g0.cell 0
  have c1 : w.cell? ⟨b1, 0, none⟩ = some (.int .i64 (h : Int)) := g1.cell 0
  have G := Lib.hid (And.intro g2 (And.intro g0 g1))
  clear hm t hw g2 g0 g1
  obtain ⟨sv, hsv⟩ : ∃ sv, sv = sto p := ⟨_, rfl⟩
  have HS := Lib.hid hsv
  rw [← HS.out] at c0 FD
  unfold sto at hsv
  subst hsv
  go_enter Try.func32, Try.ntmps32
  refine wp_region_held_drew (S := fun w' => w'.cell? ⟨b2, 0, none⟩ = some (.func (.func k) #[] caps) ∧ w'.cell? ⟨b0, 0, none⟩ = some (.iface 24 (.pointer (some ⟨p, 0, none⟩))) ∧ w'.cell? ⟨b1, 0, none⟩ = some (.int .i64 (h : Int))) (by kernel_rfl) ⟨c2, c0, c1⟩ (fun hHeld => ?_)
  refine take_ (i := 0) (v := ?_) 3 rfl rfl (by kernel_rfl) (by kernel_rfl) (by kernel_rfl) (fun _ _ _ h => h) (Or.inl ⟨by rfl, ?_⟩) (by assumption) ?_
  rotate_left
  · (intro wS hSw; (try dsimp only at hSw); go_simp; try with_reducible rfl)
  simp only [Act.put, List.setIfInBounds_toArray, List.set_cons_zero, List.set_cons_succ]
  refine take_ (i := 1) (v := ?_) 4 rfl rfl (by kernel_rfl) (by kernel_rfl) (by kernel_rfl) (fun _ _ _ h => h) (Or.inl ⟨by rfl, ?_⟩) (by assumption) ?_
  rotate_left
  · (intro wS hSw; (try dsimp only at hSw); go_simp; try with_reducible rfl)
  simp only [Act.put, List.setIfInBounds_toArray, List.set_cons_zero, List.set_cons_succ]
  refine take_ (i := 2) (v := ?_) 5 rfl rfl (by kernel_rfl) (by kernel_rfl) (by kernel_rfl) (fun _ _ _ h => h) (Or.inl ⟨by rfl, ?_⟩) (by assumption) ?_
  rotate_left
  · (intro wS hSw; (try dsimp only at hSw); go_simp; try with_reducible rfl)
  simp only [Act.put, List.setIfInBounds_toArray, List.set_cons_zero, List.set_cons_succ]
  refine one_ (i := 3) _ (by kernel_rfl) rfl (fun K hK => ?_)
  go_simp
  refine FD.out.mono ?_
  rintro e w2 ⟨A, _, c, rfl, rfl, hi, hb⟩
  have B2 : Hid (Below w.heap.size w w2) := (Below.refl _ _).drew.trans hb
  have WK := Lib.hid (HW.out w2 A _ c rfl hi B2.out)
  obtain ⟨bv, hbv⟩ : ∃ bv, bv = blobV (sto p) h l.length A parts.length c := ⟨_, rfl⟩
  rw [HS.out]
  rw [← hbv] at WK ⊢
  have hk' := hk bv
  have d2 := (B2.out.cell (p := ⟨b2, 0, none⟩) (block_lt c2)).trans c2
  have d0 := (B2.out.cell (p := ⟨b0, 0, none⟩) (block_lt c0)).trans c0
  have d1 := (B2.out.cell (p := ⟨b1, 0, none⟩) (block_lt c1)).trans c1
  unfold blobV at hbv
  subst hbv
  clear hi hb FD HW hHeld
  go_wp2_with fail
  refine hK.out _ _ ⟨d2, d0, d1⟩ (fun hHeld => ?_)
  clear hK K
  refine one_ (i := 4) _ (by kernel_rfl) rfl (fun K hK => ?_)
  go_simp
  refine WK.out.mono ?_
  rintro e w3 (⟨rfl, v, w3', hR, hkp, rfl⟩ | ⟨err, rfl, hRB, hkp⟩)
  · have R3 := Lib.hid hR
    have K3 := Lib.hid ((Kp.under B2.out).trans hkp)
    have e2 : (setO q v w3').cell? ⟨b2, 0, none⟩ = some (.func (.func k) #[] caps) := (World.cell?_of_block (setO_heap q v w3' b2 (fun x hx => (hq x hx).1))).trans ((K3.out.held G.out.1 (by decide) (by decide)).cell 0)
    have e0 : (setO q v w3').cell? ⟨b0, 0, none⟩ = some (.iface 24 (.pointer (some ⟨p, 0, none⟩))) := (World.cell?_of_block (setO_heap q v w3' b0 (fun x hx => (hq x hx).2.1))).trans ((K3.out.held G.out.2.1 (by decide) (by decide)).cell 0)
    have e1 : (setO q v w3').cell? ⟨b1, 0, none⟩ = some (.int .i64 (h : Int)) := (World.cell?_of_block (setO_heap q v w3' b1 (fun x hx => (hq x hx).2.2))).trans ((K3.out.held G.out.2.2 (by decide) (by decide)).cell 0)
    clear hR hkp WK
    go_wp2_with fail
    refine hK.out _ _ ⟨e2, e0, e1⟩ (fun hHeld => ?_)
    clear hK K
    refine wpAnyH_done (by kernel_rfl) ?_ _
    go_wp2_with fail
    go_end0
    exact .inl ⟨rfl, v, w3', R3.out, K3.out, rfl⟩
  · have R3 := Lib.hid hRB
    have K3 := Lib.hid ((Kp.under B2.out).trans hkp)
    clear hRB hkp WK
    unfold panicsWith
    go_wp2_with fail
    exact ⟨rfl, .inr ⟨err, rfl, R3.out, K3.out⟩⟩
/-- What a call that visits leaves. -/
def Visit (B : Nat) (q : Option Nat) (R : Value → World → Prop) (RB : Int → World → Prop) (w : World) (e : Ending) (w' : World) : Prop :=
  ∃ x, w.heap.size ≤ x ∧ ((e = .returned (.int .i64 0) ∧ ∃ v w2, R v w2 ∧ Kp B w w2 ∧ Held w2 x 32 #[.int .i64 0] ∧ w' = (setO q v w2).setCell ⟨x, 0, none⟩ (.int .i64 0)) ∨
    (∃ err w2 o, e = .returned (.int .i64 err) ∧ RB err w2 ∧ Kp B w w2 ∧ Held w2 x 32 #[.int .i64 0] ∧ w' = (w2.alloc o).setCell ⟨x, 0, none⟩ (.int .i64 err)))
set_option maxRecDepth 100000 in
set_option maxHeartbeats 1600000 in
theorem visit_any (B : Nat) (w : World) (p n : Nat) (f : Nat → Option KB) (hm : MemAt B w p n f) (h : Nat) (parts l : List Nat) (t : There n f h parts l) (k : FuncId) (caps : Array Value) (q : Option Nat) (R : Value → World → Prop) (RB : Int → World → Prop)
    (hk : ∀ a u, (callFunc k (#[a] ++ caps)).run Try.prog u = .ok (.enter k (#[a] ++ caps)) u)
    (hw : ∀ w2 A m c, m = parts.length → IntsAt w2 A parts → Below w.heap.size w w2 → Calls Try.prog k (#[blobV (sto p) h l.length A m c] ++ caps) w2 (Work B q R RB w2))
    (hq : ∀ x, q = some x → x < w.heap.size) :
    Calls Try.prog 20 #[sto p, .int .i64 (h : Int), .func (.func k) #[] caps] w (Visit B q R RB w) := by
  obtain ⟨w1, hw1⟩ : ∃ w1, w1 = ((w.alloc (.cells #[sto p] 56)).alloc (.cells #[.int .i64 (h : Int)] 3)).alloc (.cells #[.func (.func k) #[] caps] 58) := ⟨_, rfl⟩
  have B1 : Hid (Below w.heap.size w w1) := by rw [hw1]; exact (((Below.refl _ _).alloc (Nat.le_refl _) _).alloc (by simp) _).alloc (by simp; omega) _
  have G0 : Held w1 w.heap.size 56 #[sto p] := by rw [hw1]; exact ((Held.new w _ _ rfl).alloc _).alloc _
  have G1 : Held w1 (w.heap.size + 1) 3 #[.int .i64 (h : Int)] := by rw [hw1]; exact (Held.new _ _ _ (by simp)).alloc _
  have G2 : Held w1 (w.heap.size + 1 + 1) 58 #[.func (.func k) #[] caps] := by rw [hw1]; exact Held.new _ _ _ (by simp)
  have c0 : w1.cell? ⟨w.heap.size, 0, none⟩ = some (sto p) := G0.cell 0
  have c1 : w1.cell? ⟨w.heap.size + 1, 0, none⟩ = some (.int .i64 (h : Int)) := G1.cell 0
  have h0 : ¬ (h : Int) < 0 := by omega
  have EC : Hid (Below w1.heap.size w1 (w1.alloc (.cells #[.int .i64 0] 32))) := (Below.refl _ _).alloc (Nat.le_refl _) _
  have KE : Hid (Held (w1.alloc (.cells #[.int .i64 0] 32)) w1.heap.size 32 #[.int .i64 0]) := Held.new _ _ _ rfl
  have V1 := visit1_any B (w1.alloc (.cells #[.int .i64 0] 32)) p n f ((hm.under B1.out).under EC.out) h parts l t k caps q R RB hk (fun w2 A m c e1 e2 e3 => hw w2 A m c e1 e2 ((B1.out.trans (EC.out.mono B1.out.size)).trans (e3.mono (Nat.le_trans B1.out.size EC.out.size)))) w.heap.size (w.heap.size + 1) (w.heap.size + 1 + 1) (G2.below EC.out G2.lt) (G0.below EC.out G0.lt) (G1.below EC.out G1.lt) (fun x hx => by
    have := hq x hx
    exact ⟨by omega, by omega, by omega⟩)
  have AT := Lib.hid (attempt_any 32 #[.pointer (some ⟨w.heap.size + 1 + 1, 0, none⟩), .pointer (some ⟨w.heap.size, 0, none⟩), .pointer (some ⟨w.heap.size + 1, 0, none⟩)] w1
    (fun w3 => ∃ v w2, R v w2 ∧ Kp B w w2 ∧ Held w2 w1.heap.size 32 #[.int .i64 0] ∧ w3 = setO q v w2) (fun err w3 => RB err w3 ∧ Kp B w w3 ∧ Held w3 w1.heap.size 32 #[.int .i64 0]) (fun u => rfl)
    (V1.mono fun e w3 hh => by
      have K0 : Kp B w (w1.alloc (.cells #[.int .i64 0] 32)) := (Kp.under B1.out).trans (Kp.under EC.out)
      rcases hh with ⟨rfl, v, w2, hR, hkp, rfl⟩ | ⟨err, rfl, hRB, hkp⟩
      · have hh := hkp.held KE.out (by decide) (by decide)
        refine ⟨(setO_heap q v w2 _ (fun x hx => ?_)).trans hh, .inl ⟨rfl, v, w2, hR, K0.trans hkp, hh, rfl⟩⟩
        have := hq x hx
        have := B1.out.size
        omega
      · have hh := hkp.held KE.out (by decide) (by decide)
        exact ⟨hh, .inr ⟨err, rfl, hRB, K0.trans hkp, hh⟩⟩))
  have SZ : Hid (w.heap.size ≤ w1.heap.size) := B1.out.size
  have HW := Lib.hid hw1
  clear V1 G0 G1 G2 hm t hw hw1
  obtain ⟨sv, hsv⟩ : ∃ sv, sv = sto p := ⟨_, rfl⟩
  rw [← hsv] at c0 HW ⊢
  unfold sto at hsv
  subst hsv
  go_enter Try.func20, Try.ntmps20
  go_upto_region 1 with fail
  rw [← HW.out]
  clear HW
  go_wp2_with fail
  refine AT.out.mono ?_
  rintro e w' ⟨w2, ⟨hR, rfl, rfl⟩ | ⟨err, o, hB, rfl, rfl⟩⟩
  · have R2 := Lib.hid hR
    clear hR AT c0 c1 h0
    go_wp2_with fail
    go_ret
    obtain ⟨v, w3, r1, r2, r3, rfl⟩ := R2.out
    exact ⟨w1.heap.size, SZ.out, .inl ⟨rfl, v, w3, r1, r2, r3, rfl⟩⟩
  · have R2 := Lib.hid hB
    clear hB AT c0 c1 h0
    go_wp2_with fail
    go_ret
    exact ⟨w1.heap.size, SZ.out, .inr ⟨err, w2, o, rfl, R2.out.1, R2.out.2.1, R2.out.2.2, rfl⟩⟩
end Go.Proofs.Ytlofpbmceipkkaa
