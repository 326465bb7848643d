/-
  docketref11: Same.
-/
import Derived.Test.YtnodhbgkoedalaaGreatDoorQW19
import Derived.Test.YtnodhbgkoedalaaGreatDoorR9
namespace Go.Proofs.YtnodhbgkoedalaaGreatDoor
open Go.RowKit Reply

def sameQ (a b : Wire.Rq) : Bool := decide (a = b)
theorem sameq_no {a b : Wire.Rq} (h : a.method ≠ b.method ∨ a.target ≠ b.target ∨ a.body ≠ b.body ∨ a.close ≠ b.close ∨ a.headers ≠ b.headers) : sameQ a b = false := decide_eq_false (fun e => by
  subst e
  rcases h with h | h | h | h | h <;> exact h rfl)
theorem sameq_yes {a b : Wire.Rq} (h1 : a.method = b.method) (h2 : a.target = b.target) (h3 : a.body = b.body) (h4 : a.close = b.close) (h5 : a.headers = b.headers) : sameQ a b = true := decide_eq_true (by
  obtain ⟨_, _, _, _, _⟩ := a
  obtain ⟨_, _, _, _, _⟩ := b
  simp only at h1 h2 h3 h4 h5
  rw [h1, h2, h3, h4, h5])
set_option maxRecDepth 100000 in
set_option maxHeartbeats 8000000 in
theorem same_any (w : World) (a b : Wire.Rq) (A Z : Option Addr) (c d : Nat) (hA : HAt w A a.headers) (hZ : HAt w Z b.headers) (hl : a.headers.length ≤ 1048576) :
    Calls Tryz.prog 10 #[qV a A c, qV b Z d] w fun e w' => e = .returned (.bool (sameQ a b)) ∧ Below w.heap.size w w' := by
  have HA := Lib.hid hA
  have HZ := Lib.hid hZ
  unfold qV
  obtain ⟨n, hn⟩ : ∃ n, n = a.headers.length := ⟨_, rfl⟩
  obtain ⟨m, hm⟩ : ∃ n, n = b.headers.length := ⟨_, rfl⟩
  obtain ⟨m1, hm1⟩ : ∃ x, x = S a.method := ⟨_, rfl⟩
  obtain ⟨m2, hm2⟩ : ∃ x, x = S b.method := ⟨_, rfl⟩
  have fm : (m1.toList == m2.toList) = decide (a.method = b.method) := by rw [hm1, hm2]; exact S_eq _ _
  obtain ⟨t1, ht1⟩ : ∃ x, x = S a.target := ⟨_, rfl⟩
  obtain ⟨t2, ht2⟩ : ∃ x, x = S b.target := ⟨_, rfl⟩
  have ft : (t1.toList == t2.toList) = decide (a.target = b.target) := by rw [ht1, ht2]; exact S_eq _ _
  obtain ⟨b1, hb1⟩ : ∃ x, x = S a.body := ⟨_, rfl⟩
  obtain ⟨b2, hb2⟩ : ∃ x, x = S b.body := ⟨_, rfl⟩
  have fb : (b1.toList == b2.toList) = decide (a.body = b.body) := by rw [hb1, hb2]; exact S_eq _ _
  obtain ⟨c1, hc1⟩ : ∃ x, x = a.close := ⟨_, rfl⟩
  obtain ⟨c2, hc2⟩ : ∃ x, x = b.close := ⟨_, rfl⟩
  rw [← hn, ← hm, ← hm1, ← hm2, ← ht1, ← ht2, ← hb1, ← hb2, ← hc1, ← hc2]
  have HN := Lib.hid hn
  have HM := Lib.hid hm
  have hnb : n ≤ 1048576 := by omega
  have X5 := Lib.hid hc1
  have X6 := Lib.hid hc2
  obtain ⟨W0, hW0⟩ : ∃ x, x = (w.alloc (.cells #[.string m1, .string t1, .slice A n c, .string b1, .bool c1] 26)).alloc (.cells #[.string m2, .string t2, .slice Z m d, .string b2, .bool c2] 26) := ⟨_, rfl⟩
  have HW0 := Lib.hid hW0
  have P1 : Hid (W0.cell? ⟨w.heap.size, 2, none⟩ = some (.slice A n c)) := by
    show _ = _
    have e : Held (w.alloc (.cells #[.string m1, .string t1, .slice A n c, .string b1, .bool c1] 26)) w.heap.size 26 #[.string m1, .string t1, .slice A n c, .string b1, .bool c1] := Held.new _ _ _ rfl
    rw [hW0]
    exact (e.alloc _).cell 2
  have P2 : Hid (W0.cell? ⟨w.heap.size + 1, 2, none⟩ = some (.slice Z m d)) := by
    show _ = _
    have e : Held W0 (w.heap.size + 1) 26 #[.string m2, .string t2, .slice Z m d, .string b2, .bool c2] := by rw [hW0]; exact Held.new _ _ _ (by simp)
    exact e.cell 2
  have B0 : Hid (Below w.heap.size w W0) := by show Below _ _ _; rw [hW0]; exact ((Below.refl _ _).alloc (Nat.le_refl _) _).alloc (by simp) _
  clear hn hm hm1 hm2 ht1 ht2 hb1 hb2 hc1 hc2 hA hZ hW0 hl
  by_cases g1 : a.method = b.method
  · rw [decide_eq_true g1] at fm
    by_cases g2 : a.target = b.target
    · rw [decide_eq_true g2] at ft
      by_cases g3 : a.body = b.body
      · rw [decide_eq_true g3] at fb
        by_cases g4 : c1 = c2
        · have e4 : (c1 == c2) = true := by rw [g4]; simp
          have e4n : (c1 != c2) = false := by rw [g4]; simp
          by_cases g5 : n = m
          · have FY : Hid (a.headers = b.headers → sameQ a b = true) := fun h => sameq_yes g1 g2 g3 (by rw [← X5.out, ← X6.out]; exact g4) h
            have e5 : ((n : Int) == (m : Int)) = true := by rw [g5]; simp
            have e5n : ((n : Int) != (m : Int)) = false := by rw [g5]; simp
            have HNM := Lib.hid g5
            clear g1 g2 g3 g4 g5
            go_enter Tryz.func10, Tryz.ntmps10
            go_wp2_with fail
            go_loopw [5] (fun i wr => ∃ j : Nat, j ≤ n ∧ i = .int .i64 j ∧ Hid ((∀ i (h1 : i < a.headers.length) (h2 : i < b.headers.length), i < j → a.headers[i] = b.headers[i]) ∧ ∃ q, wr = W0.drewN q)) (fun i _ => n - (intOf i).toNat)
            case atStart => exact ⟨0, by omega, rfl, fun i _ _ h => by omega, 0, HW0.out.symm⟩
            case round =>
              obtain ⟨j, hj, rfl, G⟩ := hrel
              obtain ⟨q0, rfl⟩ := G.out.2
              have x1 : ∀ q, (W0.drewN q).cell? ⟨w.heap.size, 2, none⟩ = some (.slice A n c) := fun _ => P1.out
              have x2 : ∀ q, (W0.drewN q).cell? ⟨w.heap.size + 1, 2, none⟩ = some (.slice Z m d) := fun _ => P2.out
              have x10 : W0.cell? ⟨w.heap.size, 2, none⟩ = some (.slice A n c) := P1.out
              have x20 : W0.cell? ⟨w.heap.size + 1, 2, none⟩ = some (.slice Z m d) := P2.out
              have Bq : Hid (Below w.heap.size w (W0.drewN q0)) := below_drewN B0.out q0
              by_cases hlt : j < n
              · have h1 : j < a.headers.length := by rw [← HN.out]; exact hlt
                have h2 : j < b.headers.length := by rw [← HM.out, ← HNM.out]; exact hlt
                have H1 := Lib.hid h1
                have H2 := Lib.hid h2
                have hjm : j < m := by rw [← HNM.out]; exact hlt
                have jm : (j : Int) < (m : Int) := by omega
                obtain ⟨g, off, rfl, a0, a1⟩ := (HA.out.below B0.out).at_ H1.out
                obtain ⟨g2, off2, rfl, b0, b1'⟩ := (HZ.out.below B0.out).at_ H2.out
                obtain ⟨u1, hu1⟩ : ∃ x, x = S (a.headers[j]'H1.out).1 := ⟨_, rfl⟩
                obtain ⟨u2, hu2⟩ : ∃ x, x = S (a.headers[j]'H1.out).2 := ⟨_, rfl⟩
                obtain ⟨v1, hv1⟩ : ∃ x, x = S (b.headers[j]'H2.out).1 := ⟨_, rfl⟩
                obtain ⟨v2, hv2⟩ : ∃ x, x = S (b.headers[j]'H2.out).2 := ⟨_, rfl⟩
                have NE := Lib.hid (hdr_ne (a := a.headers[j]'H1.out) (b := b.headers[j]'H2.out) hu1 hu2 hv1 hv2)
                rw [← hu1] at a0
                rw [← hu2] at a1
                rw [← hv1] at b0
                rw [← hv2] at b1'
                have y0 : ∀ q, (W0.drewN q).cell? ⟨g, off + j * 2, none⟩ = some (.string u1) := fun _ => a0
                have y1 : ∀ q, (W0.drewN q).cell? ⟨g, off + j * 2 + 1, none⟩ = some (.string u2) := fun _ => a1
                have z0 : ∀ q, (W0.drewN q).cell? ⟨g2, off2 + j * 2, none⟩ = some (.string v1) := fun _ => b0
                have z1 : ∀ q, (W0.drewN q).cell? ⟨g2, off2 + j * 2 + 1, none⟩ = some (.string v2) := fun _ => b1'
                have PN := pair_ne
                have lim : (j : Int) ≤ 1048576 := by omega
                clear hu1 hu2 hv1 hv2 h1 h2
                go_upto_region 6 with fail
                go_quiet (fail)
                rw [NE.out]
                by_cases he : a.headers[j]'H1.out = b.headers[j]'H2.out
                · rw [decide_eq_true he]
                  have G2 : Hid ((∀ i (h1 : i < a.headers.length) (h2 : i < b.headers.length), i < j + 1 → a.headers[i] = b.headers[i]) ∧ ∃ q, (W0.drewN q0).drewN nq = W0.drewN q) := ⟨fun i i1 i2 hi => by
                    rcases Nat.lt_or_ge i j with h | h
                    · exact G.out.1 i i1 i2 h
                    · obtain rfl : i = j := by omega
                      exact he, ⟨_, World.drewN_drewN _ _ _⟩⟩
                  clear he
                  go_wp2_with fail
                  go_roundw
                  case rel => exact ⟨j + 1, by omega, by go_num, G2.out.1, _, rfl⟩
                  case measure => simp [intOf]; omega
                · rw [decide_eq_false he]
                  have F : Hid (sameQ a b = false) := sameq_no (.inr (.inr (.inr (.inr (fun e => he (by simp only [e]))))))
                  clear he
                  go_wp2_with fail
                  go_ret
                  exact ⟨ret_bool F.out.symm, below_drewN Bq.out nq⟩
              · obtain rfl : j = n := by omega
                have F : Hid (sameQ a b = true) := FY.out (List.ext_getElem (by rw [← HN.out, ← HM.out, HNM.out]) (fun i i1 i2 => G.out.1 i i1 i2 (by rw [HN.out]; exact i1)))
                go_wp2_with fail
                go_ret
                exact ⟨ret_bool F.out.symm, Bq.out⟩
          · skip
            have F : Hid (sameQ a b = false) := sameq_no (.inr (.inr (.inr (.inr (fun h => g5 (by rw [HN.out, HM.out, h]))))))
            have e5 : ((n : Int) == (m : Int)) = false := by rw [beq_eq_false_iff_ne]; omega
            have e5n : ((n : Int) != (m : Int)) = true := by rw [bne_iff_ne]; omega
            clear g1 g2 g3 g4 g5
            go_enter Tryz.func10, Tryz.ntmps10
            go_wp2_with fail
            go_ret
            exact ⟨ret_bool F.out.symm, by rw [← HW0.out]; exact B0.out⟩
        · skip
          have F : Hid (sameQ a b = false) := sameq_no (.inr (.inr (.inr (.inl (by rw [← X5.out, ← X6.out]; exact g4)))))
          have e4 : (c1 == c2) = false := by rw [beq_eq_false_iff_ne]; exact g4
          have e4n : (c1 != c2) = true := by rw [bne_iff_ne]; exact g4
          clear g1 g2 g3 g4
          go_enter Tryz.func10, Tryz.ntmps10
          go_wp2_with fail
          go_ret
          exact ⟨ret_bool F.out.symm, by rw [← HW0.out]; exact B0.out⟩
      · rw [decide_eq_false g3] at fb
        have F : Hid (sameQ a b = false) := sameq_no (.inr (.inr (.inl g3)))
        clear g1 g2 g3
        go_enter Tryz.func10, Tryz.ntmps10
        go_wp2_with fail
        go_ret
        exact ⟨ret_bool F.out.symm, by rw [← HW0.out]; exact B0.out⟩
    · rw [decide_eq_false g2] at ft
      have F : Hid (sameQ a b = false) := sameq_no (.inr (.inl g2))
      clear g1 g2
      go_enter Tryz.func10, Tryz.ntmps10
      go_wp2_with fail
      go_ret
      exact ⟨ret_bool F.out.symm, by rw [← HW0.out]; exact B0.out⟩
  · rw [decide_eq_false g1] at fm
    have F : Hid (sameQ a b = false) := sameq_no (.inl g1)
    clear g1
    go_enter Tryz.func10, Tryz.ntmps10
    go_wp2_with fail
    go_ret
    exact ⟨ret_bool F.out.symm, by rw [← HW0.out]; exact B0.out⟩
end Go.Proofs.YtnodhbgkoedalaaGreatDoor
