/-
  blob: lay.
-/
import Derived.Test.YtlofpbmceipkkaaM26
namespace Go.Proofs.Ytlofpbmceipkkaa
open Go.RowKit Wal Blob

theorem cnt_full {f : Nat → Option KB} : ∀ n, (∀ j, j < n → f j ≠ none) → cnt n f = n
  | 0, _ => rfl
  | n + 1, h => by
    rw [cnt_succ, cnt_full n (fun j hj => h j (by omega))]
    cases hx : f n with
    | none => exact absurd hx (h n (by omega))
    | some x => rfl
theorem wipe_fill {f : Nat → Option KB} {ts : List Nat} (h : ∀ t ∈ ts, 1 ≤ t ∧ f (t - 1) = none) : wipe (fill0 f ts) ts = f := by
  funext j
  unfold wipe fill0
  by_cases c : j + 1 ∈ ts
  · rw [if_pos c]
    have := (h _ c).2
    rw [Nat.add_sub_cancel] at this
    exact this.symm
  · rw [if_neg c, if_neg c]
theorem Tak.nodup {n : Nat} {f : Nat → Option KB} {ts : List Nat} (h : Tak n f ts) : ts.Nodup := h.rise.imp (fun {a b} (h : a < b) => Nat.ne_of_lt h)
theorem Tak.short {n : Nat} {f : Nat → Option KB} {ts : List Nat} (h : Tak n f ts) (hf : ∀ j, j < n → fill0 f ts j ≠ none) : cnt n f + ts.length = n := by
  rw [← cnt_add n ts f (fill0 f ts) h.nodup (fun v hv => ⟨(h.each v hv).1, (h.each v hv).2.1, (h.each v hv).2.2, by
    unfold fill0
    rw [show v - 1 + 1 = v by have := (h.each v hv).1; omega, if_pos hv]
    simp⟩) (fun j hj => by
    unfold fill0
    rw [if_neg hj])]
  exact cnt_full n hf
/-- How many blocks so many bytes need. -/
def needL (k : Nat) : Nat := if k = 0 then 0 else needB k
/-- What a text that was laid leaves. -/
def Laid (n : Nat) (f f' : Nat → Option KB) (h : Nat) (parts l : List Nat) : Prop := (l = [] ∧ h = 0 ∧ parts = [] ∧ f' = f) ∨ LaidAt n f f' h parts l
def LayE (B : Nat) (w : World) (p n : Nat) (f : Nat → Option KB) (l : List Nat) (e : Ending) (w' : World) : Prop :=
  (∃ (h : Nat) (parts : List Nat) (f' : Nat → Option KB), e = .returned (.int .i64 (h : Int)) ∧ MemAt B w' p n f' ∧ Kp B w w' ∧ Laid n f f' h parts l) ∨ (e = panicsWith 12 ∧ MemAt B w' p n f ∧ Kp B w w' ∧ n < cnt n f + needL l.length)
theorem strB_some {l : List Nat} (h : 0 < l.length) : (strB l).toList.isEmpty = false := by
  rw [ByteArray.toList_eq]
  have e : (strB l).data.toList.length = l.length := (Array.length_toList).trans (strB_size l)
  cases hq : (strB l).data.toList with
  | nil => rw [hq] at e; simp at e; omega
  | cons a r => rfl
set_option maxRecDepth 100000 in
set_option maxHeartbeats 3200000 in
theorem lay_any (B : Nat) (w : World) (hBw : B ≤ w.heap.size) (p n : Nat) (f : Nat → Option KB) (hm : MemAt B w p n f) (l : List Nat) (h2 : l.length ≤ 49152) (hb : ∀ x ∈ l, x < 256) :
    Calls Try.prog 27 #[sto p, strV l] w (LayE B w p n f l) := by
  rcases Nat.eq_zero_or_pos l.length with h0 | h1
  · have hl : l = [] := List.eq_nil_of_length_eq_zero h0
    subst hl
    have N2 : Hid (Below w.heap.size w ((w.alloc (.cells #[sto p] 56)).alloc (.cells #[strV []] 9))) := ((Below.refl _ _).alloc (Nat.le_refl _) _).alloc (by simp) _
    have FIN : Hid (MemAt B ((w.alloc (.cells #[sto p] 56)).alloc (.cells #[strV []] 9)) p n f ∧ Kp B w ((w.alloc (.cells #[sto p] 56)).alloc (.cells #[strV []] 9))) := ⟨hm.under N2.out, Kp.under N2.out⟩
    unfold strV sto at *
    rw [strB_nil] at *
    clear hm hb h0 h2
    go_enter Try.func27, Try.ntmps27
    go_wp2_with fail
    go_ret
    exact .inl ⟨0, [], f, rfl, FIN.out.1, FIN.out.2, .inl ⟨rfl, rfl, rfl, rfl⟩⟩
  · have HBY := Lib.hid hb
    have HM := Lib.hid hm
    obtain ⟨w1, hw1⟩ : ∃ w1, w1 = ((w.alloc (.cells #[sto p] 56)).alloc (.cells #[strV l] 9)).alloc (.cells #[.slice none 0 0] 59) := ⟨_, rfl⟩
    have B1 : Hid (Below w.heap.size w w1) := by rw [hw1]; exact (((Below.refl _ _).alloc (Nat.le_refl _) _).alloc (by simp) _).alloc (by simp; omega) _
    have G1 : Hid (Held w1 w.heap.size 56 #[sto p]) := by rw [hw1]; exact ((Held.new w _ _ rfl).alloc _).alloc _
    have G0 : Hid (Held w1 (w.heap.size + 1) 9 #[strV l]) := by rw [hw1]; exact (Held.new _ _ _ (by simp)).alloc _
    have G2 : Hid (Held w1 (w.heap.size + 1 + 1) 59 #[.slice none 0 0]) := by rw [hw1]; exact Held.new _ _ _ (by simp)
    have EC : Hid (Below w1.heap.size w1 (w1.alloc (.cells #[.int .i64 0] 32))) := (Below.refl _ _).alloc (Nat.le_refl _) _
    have KE : Hid (Held (w1.alloc (.cells #[.int .i64 0] 32)) w1.heap.size 32 #[.int .i64 0]) := Held.new _ _ _ rfl
    have L1 := lay1_any B (w1.alloc (.cells #[.int .i64 0] 32)) (by have := B1.out.size; simp; omega) p n f ((hm.under B1.out).under EC.out) l h1 h2 hb (w.heap.size + 1) w.heap.size (w.heap.size + 1 + 1) (G0.out.below EC.out G0.out.lt) (G1.out.below EC.out G1.out.lt) (G2.out.below EC.out G2.out.lt)
    have AT := Lib.hid (attempt_any 42 #[.pointer (some ⟨w.heap.size + 1, 0, none⟩), .pointer (some ⟨w.heap.size, 0, none⟩), .pointer (some ⟨w.heap.size + 1 + 1, 0, none⟩)] w1
      (fun w3 => LayOK B n p (w.heap.size + 1 + 1) f l (w1.alloc (.cells #[.int .i64 0] 32)) w3 ∧ Held w3 w1.heap.size 32 #[.int .i64 0])
      (fun err w3 => err = 12 ∧ LayNo B n p (w.heap.size + 1 + 1) f l (w1.alloc (.cells #[.int .i64 0] 32)) w3 ∧ Held w3 w1.heap.size 32 #[.int .i64 0]) (fun u => rfl)
      (L1.mono fun e w3 hh => by
        have ne : w1.heap.size ≠ w.heap.size + 1 + 1 := by have := G2.out.lt; omega
        rcases hh with ⟨rfl, hok⟩ | ⟨rfl, hno⟩
        · have hx : Held w3 w1.heap.size 32 #[.int .i64 0] := by
            obtain ⟨A, c, h, parts, f', _, _, _, _, kk⟩ := hok
            exact kk.held KE.out ne (by decide) (by decide)
          exact ⟨hx, .inl ⟨rfl, hok, hx⟩⟩
        · have hx : Held w3 w1.heap.size 32 #[.int .i64 0] := by
            obtain ⟨A, c, ts, _, _, _, _, _, _, kk⟩ := hno
            exact kk.held KE.out ne (by decide) (by decide)
          exact ⟨hx, .inr ⟨12, rfl, rfl, hno, hx⟩⟩))
    have HW := Lib.hid hw1
    have cs : w1.cell? ⟨w.heap.size + 1, 0, none⟩ = some (.string (strB l)) := G0.out.cell 0
    have LT : Hid (w.heap.size + 1 + 1 < w1.heap.size) := G2.out.lt
    have K0 : Hid (Kp B w (w1.alloc (.cells #[.int .i64 0] 32))) := (Kp.under B1.out).trans (Kp.under EC.out)
    have GE : Hid (Held (w1.alloc (.cells #[.int .i64 0] 32)) w.heap.size 56 #[sto p]) := G1.out.below EC.out G1.out.lt
    clear hw1 L1 hm hb
    obtain ⟨sv, hsv⟩ : ∃ sv, sv = sto p := ⟨_, rfl⟩
    have HS := Lib.hid hsv
    rw [← hsv] at HW ⊢
    unfold sto at hsv
    subst hsv
    unfold strV at HW ⊢
    go_enter Try.func27, Try.ntmps27
    have ie := strB_some h1
    go_upto_region 4 with fail
    rw [← HW.out]
    clear HW ie cs
    go_wp2_with fail
    refine AT.out.mono ?_
    rintro e w' ⟨w3, ⟨⟨hok, hx⟩, rfl, rfl⟩ | ⟨err, o, ⟨rfl, hno, hx⟩, rfl, rfl⟩⟩
    · obtain ⟨A, c, h, parts, f', hb2, hi, hla, hm', hkp⟩ := hok
      have nx : w.heap.size + 1 + 1 ≠ w1.heap.size := by have := LT.out; omega
      have U2 := Lib.hid (hb2.far (p := ⟨w1.heap.size, 0, none⟩) nx (.int .i64 0))
      have UI := Lib.hid (hi.set_ hx (by decide) 0 (.int .i64 0))
      have UM := Lib.hid (KeptErr hx hm' (.int .i64 0))
      have UK := Lib.hid ((hkp.kp K0.out (by omega)).new_ (by have := LT.out; omega : w.heap.size ≤ w1.heap.size) 0 (.int .i64 0))
      have LA := Lib.hid hla
      generalize w3.setCell ⟨w1.heap.size, 0, none⟩ (.int .i64 0) = u at *
      have c2 : u.cell? ⟨w.heap.size + 1 + 1, 0, none⟩ = some (.slice A (parts.length + 1) c) := U2.out.cell 0
      obtain ⟨g, off, rfl, hc⟩ := UI.out.cell (i := 0) (by simp)
      have hc0 : u.cell? ⟨g, off, none⟩ = some (.int .i64 (h : Int)) := hc
      have nn : (0 : Int) < (parts.length : Int) + 1 := by omega
      clear hb2 hi hla hm' hkp hx hc AT
      go_wp2_with fail
      go_ret
      exact .inl ⟨h, parts, f', rfl, UM.out, UK.out, .inr LA.out⟩
    · obtain ⟨A, c, ts, hb2, hi, htk, hfull, hshort, hm', hkp⟩ := hno
      have nx : w.heap.size + 1 + 1 ≠ w1.heap.size := by have := LT.out; omega
      have BO : Below w3.heap.size w3 (w3.alloc o) := (Below.refl _ _).alloc (Nat.le_refl _) _
      have hx' := hx.below BO hx.lt
      have hs : Held w3 w.heap.size 56 #[sto p] := hkp.held GE.out (by omega) (by decide) (by decide)
      have U2 := Lib.hid ((hb2.below BO hb2.lt).far (p := ⟨w1.heap.size, 0, none⟩) nx (.int .i64 12))
      have U0 := Lib.hid ((hs.below BO hs.lt).far (p := ⟨w1.heap.size, 0, none⟩) (by have := LT.out; show w.heap.size ≠ w1.heap.size; omega) (.int .i64 12))
      have UI := Lib.hid ((hi.below BO).set_ hx' (by decide) 0 (.int .i64 12))
      have UM := Lib.hid (KeptErr hx' (hm'.under BO) (.int .i64 12))
      have UK := Lib.hid (((hkp.kp K0.out (by omega)).alloc o).new_ (by have := LT.out; omega : w.heap.size ≤ w1.heap.size) 0 (.int .i64 12))
      have TK := Lib.hid htk
      have SH := Lib.hid (htk.short hfull)
      have N2 := Lib.hid hshort
      generalize (w3.alloc o).setCell ⟨w1.heap.size, 0, none⟩ (.int .i64 12) = u at *
      have c2 : u.cell? ⟨w.heap.size + 1 + 1, 0, none⟩ = some (.slice A ts.length c) := U2.out.cell 0
      have c0 : u.cell? ⟨w.heap.size, 0, none⟩ = some (sto p) := U0.out.cell 0
      have tl : ts.length ≤ 100000 := by
        have := hshort
        unfold needB at this
        omega
      have GB := giveback_any B u p n _ UM.out ts A c UI.out tl htk.nodup (fun v hv => ⟨(htk.each v hv).1, List.replicate 512 0, by
        unfold fill0
        rw [show v - 1 + 1 = v by have := (htk.each v hv).1; omega, if_pos hv]
        rfl⟩)
      rw [wipe_fill (fun v hv => ⟨(htk.each v hv).1, (htk.each v hv).2.2⟩)] at GB
      have GBH := Lib.hid GB
      rw [← HS.out] at c0 GBH
      clear hb2 hi htk hfull hshort hm' hkp hx hx' hs BO GB AT
      go_wp2_with fail
      refine GBH.out.mono ?_
      rintro e w5 ⟨rfl, m5, k5⟩
      have M5 := Lib.hid m5
      have K5 := Lib.hid (UK.out.trans k5)
      have HD := Lib.hid (heed_bad w5 12 (by decide))
      clear m5 k5 GBH c0 c2
      go_wp2_with fail
      refine HD.out.mono ?_
      rintro e w6 ⟨rfl, rfl⟩
      clear HD
      go_wp2_with fail
      refine ⟨rfl, .inr ⟨rfl, M5.out, K5.out, ?_⟩⟩
      have s1 := SH.out
      have s2 := N2.out
      unfold needL
      rw [if_neg (by omega)]
      omega
end Go.Proofs.Ytlofpbmceipkkaa
