/-
  blob: giveBack.
-/
import Derived.Test.YtlofpbmceipkkaaM22
namespace Go.Proofs.Ytlofpbmceipkkaa
open Go.RowKit Wal Blob

theorem wipe_snoc (f : Nat → Option KB) (bs : List Nat) (v : Nat) (h1 : 1 ≤ v) : put (wipe f bs) (v - 1) none = wipe f (bs ++ [v]) := by
  rw [wipe_more f bs v h1]
  funext j
  have e : (j + 1 ∈ v :: bs) ↔ (j + 1 ∈ bs ++ [v]) := by simp [or_comm]
  unfold wipe
  simp only [e]
set_option maxRecDepth 100000 in
theorem give1_any (B : Nat) (w : World) (p n : Nat) (f : Nat → Option KB) (hm : MemAt B w p n f) (v : Nat) (h1 : 1 ≤ v) (y : List Nat) (hf : f (v - 1) = some (y, false)) (b0 b1 : Nat) (c0 : w.cell? ⟨b0, 0, none⟩ = some (sto p)) (c1 : w.cell? ⟨b1, 0, none⟩ = some (.int .i64 (v : Int))) :
    Calls Try.prog 53 #[.pointer (some ⟨b0, 0, none⟩), .pointer (some ⟨b1, 0, none⟩)] w fun e w' => e = .returned (.tuple #[]) ∧ MemAt B w' p n (put f (v - 1) none) ∧ Kp B w w' := by
  have FR := Lib.hid (free_yes B w p n f hm (v - 1) y hf)
  rw [show ((v - 1 : Nat) : Int) + 1 = (v : Int) by omega] at FR
  obtain ⟨sv, hsv⟩ : ∃ sv, sv = sto p := ⟨_, rfl⟩
  rw [← hsv] at c0
  unfold sto at hsv
  subst hsv
  clear hm hf
  go_enter Try.func53, Try.ntmps53
  go_wp2_with fail
  rw [meets_free]
  case hn => kernel_rfl
  go_simp
  refine FR.out.mono ?_
  rintro e w' ⟨rfl, m, k⟩
  have R := Lib.hid (And.intro m k)
  clear m k FR
  go_wp2_with fail
  go_end0
  exact ⟨rfl, R.out⟩
set_option maxRecDepth 100000 in
set_option maxHeartbeats 1600000 in
theorem giveback_any (B : Nat) (w : World) (p n : Nat) (f : Nat → Option KB) (hm : MemAt B w p n f) (ts : List Nat) (A : Option Addr) (c : Nat) (hi : IntsAt w A ts) (hl : ts.length ≤ 100000) (hd : ts.Nodup) (hf : ∀ v ∈ ts, 1 ≤ v ∧ ∃ y, f (v - 1) = some (y, false)) :
    Calls Try.prog 46 #[sto p, .slice A ts.length c] w fun e w' => e = .returned (.tuple #[]) ∧ MemAt B w' p n (wipe f ts) ∧ Kp B w w' := by
  have HF := Lib.hid hf
  have HD := Lib.hid hd
  obtain ⟨w1, hw1⟩ : ∃ w1, w1 = w.alloc (.cells #[sto p] 56) := ⟨_, rfl⟩
  obtain ⟨b, hb⟩ : ∃ b, b = w.heap.size := ⟨_, rfl⟩
  have B1 : Hid (Below w.heap.size w w1) := by rw [hw1]; exact (Below.refl _ _).alloc (Nat.le_refl _) _
  have H1 : Hid (Held w1 b 56 #[sto p]) := by rw [hw1]; exact Held.new _ _ _ hb
  have M1 := Lib.hid (hm.under B1.out)
  have I1 := Lib.hid (hi.below B1.out)
  have HW := Lib.hid hw1
  have HB := Lib.hid hb
  clear hm hi hf hd hw1 hb
  obtain ⟨sv, hsv⟩ : ∃ sv, sv = sto p := ⟨_, rfl⟩
  have HS := Lib.hid hsv
  rw [← hsv] at HW ⊢
  unfold sto at hsv
  subst hsv
  go_enter Try.func46, Try.ntmps46
  go_upto_region 1 with fail
  rw [← HW.out, ← HB.out]
  clear HW
  go_wp2_with fail
  go_loopw [8] (fun i wr => ∃ k : Nat, k ≤ ts.length ∧ i = .int .i64 k ∧ Hid (MemAt B wr p n (wipe f (ts.take k)) ∧ Held wr b 56 #[sto p] ∧ IntsAt wr A ts ∧ Kp B w wr)) (fun i _ => ts.length - (intOf i).toNat)
  case atStart => exact ⟨0, by omega, rfl, by rw [List.take_zero, wipe_nil]; exact M1.out, H1.out, I1.out, Kp.under B1.out⟩
  case round =>
    obtain ⟨k, hk, rfl, G⟩ := hrel
    by_cases hlt : k < ts.length
    · obtain ⟨g, off, rfl, hc⟩ := G.out.2.2.1.cell hlt
      have ev : ts.getD k 0 = ts[k] := by rw [List.getD_eq_getElem?_getD, List.getElem?_eq_getElem hlt]; rfl
      obtain ⟨v1, y, hy⟩ := HF.out ts[k] (List.getElem_mem hlt)
      have tk : ts.take (k + 1) = ts.take k ++ [ts[k]] := List.take_succ_eq_append_getElem hlt
      have nd : ts[k] ∉ ts.take k := by
        have h1 : (ts.take (k + 1)).Nodup := HD.out.sublist (List.take_sublist _ _)
        rw [tk] at h1
        exact fun hm => (List.nodup_append.1 h1).2.2 _ hm _ (by simp) rfl
      rw [ev] at hc
      have hy2 : wipe f (ts.take k) (ts[k] - 1) = some (y, false) := by rw [wipe_far v1 nd]; exact hy
      have pt := wipe_snoc f (ts.take k) ts[k] v1
      rw [← tk] at pt
      generalize ts[k] = v at *
      have PT := Lib.hid pt
      clear tk nd hy pt
      obtain ⟨w2, hw2⟩ : ∃ w2, w2 = wr.alloc (.cells #[.int .i64 (v : Int)] 3) := ⟨_, rfl⟩
      obtain ⟨b5, hb5⟩ : ∃ b5, b5 = wr.heap.size := ⟨_, rfl⟩
      have B2 : Hid (Below wr.heap.size wr w2) := by rw [hw2]; exact (Below.refl _ _).alloc (Nat.le_refl _) _
      have H5 : Hid (Held w2 b5 3 #[.int .i64 (v : Int)]) := by rw [hw2]; exact Held.new _ _ _ hb5
      have G2 : Hid (MemAt B w2 p n (wipe f (ts.take k)) ∧ Held w2 b 56 #[sto p]) := ⟨G.out.1.under B2.out, G.out.2.1.below B2.out G.out.2.1.lt⟩
      have EC : Hid (Below w2.heap.size w2 (w2.alloc (.cells #[.int .i64 0] 32))) := (Below.refl _ _).alloc (Nat.le_refl _) _
      have KE : Hid (Held (w2.alloc (.cells #[.int .i64 0] 32)) w2.heap.size 32 #[.int .i64 0]) := Held.new _ _ _ rfl
      have AT := Lib.hid (attempt_any 53 #[.pointer (some ⟨b, 0, none⟩), .pointer (some ⟨b5, 0, none⟩)] w2
        (fun w3 => MemAt B w3 p n (wipe f (ts.take (k + 1))) ∧ Kp B w2 w3 ∧ Held w3 w2.heap.size 32 #[.int .i64 0]) (fun _ _ => False) (fun u => rfl)
        ((give1_any B _ p n _ (G2.out.1.under EC.out) v v1 y hy2 b b5 ((G2.out.2.below EC.out G2.out.2.lt).cell 0) ((H5.out.below EC.out H5.out.lt).cell 0)).mono (fun e w3 ⟨he, m3, k3⟩ => by
          have hh := k3.held KE.out (by decide) (by decide)
          rw [PT.out] at m3
          exact ⟨hh, .inl ⟨he, m3, (Kp.under EC.out).trans k3, hh⟩⟩)))
      have HW := Lib.hid hw2
      have HB5 := Lib.hid hb5
      have lk : (k : Int) < (ts.length : Int) := by omega
      have S2 : Hid (wr.heap.size ≤ w2.heap.size) := B2.out.size
      clear hw2 hb5 hy2 ev
      go_upto_region 4 with fail
      rw [← HW.out, ← HB5.out]
      clear HW
      go_wp2_with fail
      refine AT.out.mono ?_
      rintro e w' ⟨w3, ⟨⟨m3, k3, x3⟩, rfl, rfl⟩ | ⟨err, o, hF, _⟩⟩
      · have K3 : Hid (Kp B wr w3) := (Kp.under B2.out).trans k3
        have F : Hid (MemAt B (w3.setCell ⟨w2.heap.size, 0, none⟩ (.int .i64 0)) p n (wipe f (ts.take (k + 1))) ∧ Held (w3.setCell ⟨w2.heap.size, 0, none⟩ (.int .i64 0)) b 56 #[sto p] ∧ IntsAt (w3.setCell ⟨w2.heap.size, 0, none⟩ (.int .i64 0)) (some ⟨g, off, none⟩) ts ∧ Kp B w (w3.setCell ⟨w2.heap.size, 0, none⟩ (.int .i64 0))) :=
          ⟨KeptErr x3 m3 _, (K3.out.held G.out.2.1 (by decide) (by decide)).far (p := ⟨w2.heap.size, 0, none⟩) (Held.ne_ (K3.out.held G.out.2.1 (by decide) (by decide)) x3 (by decide)) _, (G.out.2.2.1.kp K3.out).set_ x3 (by decide) 0 _, (G.out.2.2.2.trans K3.out).new_ (Nat.le_trans G.out.2.2.2.size S2.out) 0 _⟩
        clear m3 k3 x3 AT hc
        go_wp2_with fail
        go_roundw
        case rel => exact ⟨k + 1, by omega, by go_num, F⟩
        case measure => simp [intOf]; omega
      · exact hF.elim
    · obtain rfl : k = ts.length := by omega
      go_wp2_with fail
      go_end0
      have g := G.out
      rw [List.take_of_length_le (Nat.le_refl _)] at g
      exact ⟨rfl, g.1, g.2.2.2⟩
end Go.Proofs.Ytlofpbmceipkkaa
