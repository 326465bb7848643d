/-
  wal: the contract of Append.
-/
import Derived.Test.YtkajneeihhobhaaGreatMPack
import Derived.Sort.CutIn
namespace Go.Proofs.YtkajneeihhobhaaGreat
open Go.RowKit Go.Shelf Wal

attribute [local go_sem] Oper.semAt_some

set_option maxRecDepth 100000 in
set_option maxHeartbeats 3200000 in
theorem append_any (w : World) (b d : Nat) (s : LS) (G F : List Nat) (m : Dsk.DM) (A : Option Addr) (n c : Nat) (l : List ByteArray) (h : LD w b G s d F m) (hs : s.Ok) (hl : Strs w A n l) (hn : n ≤ 4611686018427387904) (hA : 0 < n → ∀ x, A = some x → x.block ∉ G ++ F) (hw : m.wait.length ≤ 5600000000000) :
    Calls Tryz.prog 68 #[.pointer (some ⟨b, 0, none⟩), .slice A n c] w (AppRes w b G d F (appendO s m (txts l))) := by
  have H := Lib.hid h
  have HS := Lib.hid hs
  have HL := Lib.hid hl
  have HA := Lib.hid hA
  have HW := Lib.hid hw
  have HN := Lib.hid hn
  have HBG : Hid (b ∈ G) := h.mem
  clear h hs hl hA hw
  refine (callsIn_wide (n := 6)).1 ?_
  refine callsIn_of_wp_marks Tryz.func68 rfl trivial ?_ rfl
  refine wpIn_wide.2 ?_
  simp only [Tryz.ntmps68, List.size_toArray, List.length_cons, List.length_nil, Nat.reduceAdd, Nat.reduceSub, Array.replicate_succ, Array.replicate_zero, List.push_toArray, List.append_toArray, List.nil_append, List.cons_append]
  go_wp2_with fail
  obtain ⟨w1, hw1⟩ : ∃ w1, w1 = ((w.alloc (.cells #[.pointer (some ⟨b, 0, none⟩)] 83)).alloc (.cells #[.int .i64 0] 2)).alloc (.cells #[.int .i64 0] 29) := ⟨_, rfl⟩
  rw [← hw1]
  have B1 : Hid (Below w.heap.size w w1) := by rw [hw1]; exact (((Below.refl _ _).alloc (Nat.le_refl _) _).alloc (by simp) _).alloc (by simp; omega) _
  have z1 : w1.heap.size = w.heap.size + 1 + 1 + 1 := by rw [hw1]; simp
  have K0 : Hid (Held w1 w.heap.size 83 #[.pointer (some ⟨b, 0, none⟩)]) := by rw [hw1]; exact ((Held.new _ _ _ rfl).alloc _).alloc _
  have K1 : Hid (Held w1 (w.heap.size + 1) 2 #[.int .i64 0]) := by rw [hw1]; exact (Held.new _ _ _ (by simp)).alloc _
  have K2 : Hid (Held w1 (w.heap.size + 1 + 1) 29 #[.int .i64 0]) := by rw [hw1]; exact Held.new _ _ _ (by simp)
  obtain ⟨q0, hq0⟩ : ∃ q0, q0 = w.heap.size := ⟨_, rfl⟩
  obtain ⟨q1, hq1⟩ : ∃ q1, q1 = w.heap.size + 1 := ⟨_, rfl⟩
  obtain ⟨q2, hq2⟩ : ∃ q2, q2 = w.heap.size + 1 + 1 := ⟨_, rfl⟩
  have E1 : Hid (Env w G F w1 b d s m [q0, q1, q2] G F) := by
    refine ⟨H.out.under B1.out, Only.of_below B1.out, Grown.refl _ _, Grown.refl _ _, fun q hq => ?_, fun q hq => H.out.far_new ?_⟩
    · simp only [List.mem_cons, List.not_mem_nil, or_false] at hq; omega
    · simp only [List.mem_cons, List.not_mem_nil, or_false] at hq; omega
  have QN : Hid (w.heap.size ≤ q0 ∧ w.heap.size ≤ q1 ∧ w.heap.size ≤ q2 ∧ q0 ≠ q1 ∧ q1 ≠ q2 ∧ q0 ≠ q2) := ⟨by omega, by omega, by omega, by omega, by omega, by omega⟩
  rw [← hq0] at K0
  rw [← hq1] at K1
  rw [← hq2] at K2
  rw [← hq2, ← hq1, ← hq0]
  clear hw1 B1 z1 hq0 hq1 hq2
  refine (alive_any w1 b d s G F m E1.out.ld).mono ?_
  rintro e w2 ⟨rfl, ht⟩
  obtain ⟨G2, F2, e2, k2⟩ := E1.out.turned ht
  have E2 := Lib.hid e2
  have J0 := Lib.hid (k2 q0 (by simp) _ _ K0.out)
  have J1 := Lib.hid (k2 q1 (by simp) _ _ K1.out)
  have J2 := Lib.hid (k2 q2 (by simp) _ _ K2.out)
  have c0 := J0.out.cell 0
  have c1 := J1.out.cell 0
  have c2 := J2.out.cell 0
  have f1 := J1.out.frozen 0
  have f2 := J2.out.frozen 0
  have n1 : q1 ≠ q2 := QN.out.2.2.2.2.1
  have n2 : q2 ≠ q1 := n1.symm
  have n3 : q0 ≠ q1 := QN.out.2.2.2.1
  have n4 : q0 ≠ q2 := QN.out.2.2.2.2.2
  clear ht e2 k2 E1 K0 K1 K2
  by_cases hd : (s.dead || m.dead) = true
  · have e1 : aliveErr s m = 10 := by unfold aliveErr; rw [if_pos hd]
    rw [e1]
    have EO : Hid (appendO s m (txts l) = (0, 10, { s with dead := s.dead || m.dead }, m)) := by show _ = _; unfold appendO; rw [if_pos hd]
    clear e1 hd
    go_wp2_with fail
    obtain ⟨r1, r2⟩ := two_cells (u1 := .int .i64 0) (u2 := .int .i64 10) J1.out J2.out n1
    have hc4 := r1.cell 0
    have hc5 := r2.cell 0
    have E3 := E2.out.own ((Only.refl [q1, q2] w2).setCell (p := ⟨q1, 0, none⟩) (.inl (by simp)) (.int .i64 0) |>.setCell (p := ⟨q2, 0, none⟩) (.inl (by simp)) (.int .i64 10)) (fun x hx => by
      simp only [List.mem_cons, List.not_mem_nil, or_false] at hx ⊢
      rcases hx with rfl | rfl
      · exact ⟨.inr (.inl rfl), QN.out.2.1⟩
      · exact ⟨.inr (.inr rfl), QN.out.2.2.1⟩)
    refine ⟨.tuple #[.int .i64 0, .int .i64 10], ?_, ?_⟩
    · simp [results, Tryz.f68, go_sem, hc4, hc5]
    · rw [EO.out]
      exact ⟨rfl, E3.done⟩
  · have e1 : aliveErr s m = 0 := by unfold aliveErr; rw [if_neg hd]
    rw [e1]
    obtain ⟨s1, hs1⟩ : ∃ s1 : LS, s1 = { s with dead := s.dead || m.dead } := ⟨_, rfl⟩
    have HS1 : Hid s1.Ok := by rw [hs1]; exact ⟨HS.out.frm, HS.out.ring, HS.out.ring0, HS.out.start, HS.out.first, HS.out.first1, HS.out.needs, HS.out.count⟩
    have SL : Hid (Strs w2 A n l) := Strs.only E2.out.only HL.out (fun h0 x hx hm => HA.out h0 x hx hm)
    obtain ⟨R, hR⟩ : ∃ R, R = writesO s1.needs.sum ((List.range (need (txts l))).map (chunk (packed (s1.last + 1).toNat (txts l)))) s1 m := ⟨_, rfl⟩
    have EO : Hid (appendO s m (txts l) = if Wal.good (txts l) = false then (0, 1, s1, m) else if s1.room < (need (txts l) : Int) then (0, 12, s1, m) else if R.1 ≠ 0 then (0, R) else (s1.last + 1, 0, { R.2.1 with needs := s1.needs ++ [need (txts l)] }, R.2.2)) := by
      show _ = _
      rw [hR, hs1]
      unfold appendO
      rw [if_neg hd]
      rfl
    have ER := Lib.hid hR
    rw [← hs1] at E2
    clear hR hs1 e1 hd HS HL H
    have C1 := Lib.hid (good_any w2 A n c l HN.out SL.out)
    obtain ⟨gd, hgd⟩ : ∃ gd, gd = Wal.good (txts l) := ⟨_, rfl⟩
    have EG := Lib.hid hgd
    rw [← hgd] at C1 EO
    clear hgd
    go_wp2_with fail
    refine C1.out.mono ?_
    rintro e w' ⟨rfl, rfl⟩
    clear C1
    cases gd with
    | false =>
      rw [if_pos rfl] at EO
      go_wp2_with fail
      obtain ⟨r1, r2⟩ := two_cells (u1 := .int .i64 0) (u2 := .int .i64 1) J1.out J2.out n1
      have hc4 := r1.cell 0
      have hc5 := r2.cell 0
      have E3 := E2.out.own ((Only.refl [q1, q2] w2).setCell (p := ⟨q1, 0, none⟩) (.inl (by simp)) (.int .i64 0) |>.setCell (p := ⟨q2, 0, none⟩) (.inl (by simp)) (.int .i64 1)) (fun x hx => by
        simp only [List.mem_cons, List.not_mem_nil, or_false] at hx ⊢
        rcases hx with rfl | rfl
        · exact ⟨.inr (.inl rfl), QN.out.2.1⟩
        · exact ⟨.inr (.inr rfl), QN.out.2.2.1⟩)
      refine ⟨.tuple #[.int .i64 0, .int .i64 1], ?_, ?_⟩
      · simp [results, Tryz.f68, go_sem, hc4, hc5]
      · rw [EO.out]
        exact ⟨rfl, E3.done⟩
    | true =>
      rw [if_neg (by simp)] at EO
      have GS := Lib.hid (good_small EG.out.symm)
      have C2 := Lib.hid (need_any w2 A n c l HN.out SL.out (by have := GS.out.2.2.2.1; omega))
      have NK := Lib.hid (need_fits (txts l))
      obtain ⟨K, hK⟩ : ∃ K, K = need (txts l) := ⟨_, rfl⟩
      have EK := Lib.hid hK
      rw [← hK] at C2 EO ER GS NK
      have hK9 : (K : Int) ≤ 1209 := by have := GS.out.2.2.2.2; omega
      clear hK EG
      go_wp2_with fail
      refine C2.out.mono ?_
      rintro e w' ⟨rfl, rfl⟩
      clear C2
      obtain ⟨vn, hlog, _⟩ := E2.out.ld.log
      have C3 := Lib.hid (room_any w2 b d vn s1 hlog (by have := HS1.out.needs; have := HS1.out.ring; omega) (by have := HS1.out.count; omega) (by have := HS1.out.ring; omega))
      have rb1 : s1.room ≤ 4096 := by unfold LS.room; have := HS1.out.ring; omega
      have rb2 : 0 ≤ s1.room := by unfold LS.room; have := HS1.out.needs; omega
      obtain ⟨r, hr⟩ : ∃ r, r = s1.room := ⟨_, rfl⟩
      rw [← hr] at C3 EO rb1 rb2
      have ERm := Lib.hid hr
      clear hr hlog
      go_wp2_with fail
      refine C3.out.mono ?_
      rintro e w3 ⟨rfl, k3, hw3⟩
      have E3 : Hid (Env w G F w3 b d s1 m [q0, q1, q2] G2 F2) := by rw [hw3]; exact E2.out.drewN k3
      have L0 : Hid (Held w3 q0 83 #[.pointer (some ⟨b, 0, none⟩)]) := by rw [hw3]; exact J0.out.drewN k3
      have L1 : Hid (Held w3 q1 2 #[.int .i64 0]) := by rw [hw3]; exact J1.out.drewN k3
      have L2 : Hid (Held w3 q2 29 #[.int .i64 0]) := by rw [hw3]; exact J2.out.drewN k3
      have SL3 : Hid (Strs w3 A n l) := by rw [hw3]; exact SL.out.drewN k3
      clear hw3 C3 E2 J0 J1 J2 SL
      have c0 := L0.out.cell 0
      have c1 := L1.out.cell 0
      have c2 := L2.out.cell 0
      have f1 := L1.out.frozen 0
      have f2 := L2.out.frozen 0
      by_cases hroom : r < (K : Int)
      · rw [if_pos hroom] at EO
        go_wp2_with fail
        obtain ⟨r1, r2⟩ := two_cells (u1 := .int .i64 0) (u2 := .int .i64 12) L1.out L2.out n1
        have hc4 := r1.cell 0
        have hc5 := r2.cell 0
        have E4 := E3.out.own ((Only.refl [q1, q2] w3).setCell (p := ⟨q1, 0, none⟩) (.inl (by simp)) (.int .i64 0) |>.setCell (p := ⟨q2, 0, none⟩) (.inl (by simp)) (.int .i64 12)) (fun x hx => by
          simp only [List.mem_cons, List.not_mem_nil, or_false] at hx ⊢
          rcases hx with rfl | rfl
          · exact ⟨.inr (.inl rfl), QN.out.2.1⟩
          · exact ⟨.inr (.inr rfl), QN.out.2.2.1⟩)
        refine ⟨.tuple #[.int .i64 0, .int .i64 12], ?_, ?_⟩
        · simp [results, Tryz.f68, go_sem, hc4, hc5]
        · rw [EO.out]
          exact ⟨rfl, E4.done⟩
      · rw [if_neg hroom] at EO
        obtain ⟨vn, hlog, _⟩ := E3.out.ld.log
        have C4 := Lib.hid (last_any w3 b d vn s1 hlog (by have := HS1.out.first; omega) (by have := HS1.out.count; omega))
        obtain ⟨N, hN⟩ : ∃ N : Nat, s1.last + 1 = (N : Int) := ⟨s1.first + s1.needs.length, by unfold LS.last; omega⟩
        have hl1 : s1.last = (N : Int) - 1 := by omega
        have hN9 : N ≤ 2305843009213693952 := by
          have h1 := HS1.out.first
          have h2 := HS1.out.count
          unfold LS.last at hN
          omega
        have hN1 : 1 ≤ N := by
          have h1 := HS1.out.first1
          unfold LS.last at hN
          omega
        rw [hl1] at C4
        rw [hN] at EO ER
        rw [Int.toNat_natCast] at ER
        clear hN hl1 hlog
        go_wp2_with fail
        refine C4.out.mono ?_
        rintro e w4 ⟨rfl, k4, hw4⟩
        have E4 : Hid (Env w G F w4 b d s1 m [q0, q1, q2] G2 F2) := by rw [hw4]; exact E3.out.drewN k4
        have M0 : Hid (Held w4 q0 83 #[.pointer (some ⟨b, 0, none⟩)]) := by rw [hw4]; exact L0.out.drewN k4
        have M1 : Hid (Held w4 q1 2 #[.int .i64 0]) := by rw [hw4]; exact L1.out.drewN k4
        have M2 : Hid (Held w4 q2 29 #[.int .i64 0]) := by rw [hw4]; exact L2.out.drewN k4
        have SL4 : Hid (Strs w4 A n l) := by rw [hw4]; exact SL3.out.drewN k4
        clear hroom hw4 C4 E3 L0 L1 L2 SL3 c0 c1 c2 f1 f2
        have c0 := M0.out.cell 0
        obtain ⟨vn, hlog, _⟩ := E4.out.ld.log
        have C5 := Lib.hid (taken_any w4 b d vn s1 hlog (by have := HS1.out.needs; have := HS1.out.ring; omega) (by have := HS1.out.count; omega))
        obtain ⟨p, hp⟩ : ∃ p, p = s1.needs.sum := ⟨_, rfl⟩
        have hp9 : p ≤ 4096 := by have := HS1.out.needs; have := HS1.out.ring; omega
        rw [← hp] at C5 ER
        clear hlog hp
        go_wp2_with fail
        refine C5.out.mono ?_
        rintro e w' ⟨rfl, rfl⟩
        clear C5
        have B5 : Below w4.heap.size w4 (w4.alloc (.cells #[.int .i64 (p : Int)] 3)) := (Below.refl _ _).alloc (Nat.le_refl _) _
        have c5 := (M0.out.alloc (.cells #[.int .i64 (p : Int)] 3)).cell 0
        obtain ⟨q3, hq3⟩ : ∃ q3, q3 = w4.heap.size := ⟨_, rfl⟩
        have E5 : Hid (Env w G F (w4.alloc (.cells #[.int .i64 (p : Int)] 3)) b d s1 m [q3, q0, q1, q2] G2 F2) := (E4.out.under B5).more (by rw [World.size_alloc]; omega) (E4.out.new_far (by omega))
        have T0 := Lib.hid (M0.out.alloc (.cells #[.int .i64 (p : Int)] 3))
        have T1 := Lib.hid (M1.out.alloc (.cells #[.int .i64 (p : Int)] 3))
        have T2 := Lib.hid (M2.out.alloc (.cells #[.int .i64 (p : Int)] 3))
        have T3 : Hid (Held (w4.alloc (.cells #[.int .i64 (p : Int)] 3)) q3 3 #[.int .i64 (p : Int)]) := Held.new _ _ _ hq3
        have SL5 : Hid (Strs (w4.alloc (.cells #[.int .i64 (p : Int)] 3)) A n l) := SL4.out.below B5
        have Q3 : Hid (w.heap.size ≤ q3 ∧ q0 ≠ q3 ∧ q1 ≠ q3 ∧ q2 ≠ q3) := by
          have h1 := M0.out.lt
          have h2 := M1.out.lt
          have h3 := M2.out.lt
          have h4 := E4.out.only.size
          exact ⟨by omega, by omega, by omega, by omega⟩
        clear B5 E4 M0 M1 M2 SL4
        have HLN : Hid (l.length = n) := SL5.out.1
        have C6 := Lib.hid (pack_any (w4.alloc (.cells #[.int .i64 (p : Int)] 3)) b d s1 G2 F2 m N A n c l E5.out.ld SL5.out (by have := GS.out.2.1; have := HLN.out; omega) GS.out.2.2.1 (by omega) (fun h0 x hx e => HA.out h0 x hx (by
          rw [e]
          exact List.mem_append.2 (.inl HBG.out))) (by rw [← EK.out]; have := GS.out.2.2.2.2; omega))
        rw [← EK.out] at C6
        go_wp2_with fail
        generalize w4.alloc (.cells #[.int .i64 (p : Int)] 3) = w5 at *
        rw [← hq3]
        refine C6.out.mono ?_
        rintro e w6 ⟨g, rfl, hu, hg, hkp⟩
        clear C6 hq3 c5 c0
        obtain ⟨e6, k6⟩ := E5.out.kept hkp
        have E6 : Hid (Env w G F w6 b d s1 m [g, q3, q0, q1, q2] G2 F2) := e6.more hu.lt (E5.out.new_far hg)
        have U0 := Lib.hid (k6 q0 (by simp) _ _ T0.out)
        have U1 := Lib.hid (k6 q1 (by simp) _ _ T1.out)
        have U2 := Lib.hid (k6 q2 (by simp) _ _ T2.out)
        have U3 := Lib.hid (k6 q3 (by simp) _ _ T3.out)
        have UB := Lib.hid hu
        have GN : Hid (w.heap.size ≤ g ∧ g ≠ q0 ∧ g ≠ q1 ∧ g ≠ q2 ∧ g ≠ q3) := by
          have h1 := T0.out.lt
          have h2 := T1.out.lt
          have h3 := T2.out.lt
          have h4 := T3.out.lt
          have h5 := E5.out.only.size
          exact ⟨by omega, by omega, by omega, by omega, by omega⟩
        clear e6 k6 hu hg hkp E5 T0 T1 T2 T3 SL5
        obtain ⟨P, hP⟩ : ∃ P, P = packed N (txts l) := ⟨_, rfl⟩
        rw [← hP] at UB ER
        have EP := Lib.hid hP
        clear hP
        go_wp2_with fail
        refine ((callsIn_wide (n := 1)).1 (chunk_in Fence.wide 1 trivial rfl (some ⟨g, 0, none⟩) (512 * K) (512 * K) w6)).mono ?_
        rintro e w7 ⟨rfl, hw7⟩
        have B7 : Below w6.heap.size w6 w7 := by rw [hw7]; exact ((Below.refl _ _).alloc (Nat.le_refl _) _).alloc (by simp) _
        have z7 : w7.heap.size = w6.heap.size + 1 + 1 := by rw [hw7]; simp
        have X5 : Hid (Held w7 w6.heap.size 56 #[.slice (some ⟨g, 0, none⟩) (512 * K) (512 * K)]) := by rw [hw7]; exact (Held.new _ _ _ rfl).alloc _
        have X6 : Hid (Held w7 (w6.heap.size + 1) 3 #[.int .i64 512]) := by rw [hw7]; exact Held.new _ _ _ (by simp)
        obtain ⟨b1, hb1⟩ : ∃ b1, b1 = w6.heap.size := ⟨_, rfl⟩
        have E7 : Hid (Env w G F w7 b d s1 m [b1 + 1, b1, g, q3, q0, q1, q2] G2 F2) := ((E6.out.under B7).more (q := b1) (by omega) (E6.out.new_far (by omega))).more (by omega) (E6.out.new_far (by omega))
        have V0 := Lib.hid (U0.out.below B7 U0.out.lt)
        have V1 := Lib.hid (U1.out.below B7 U1.out.lt)
        have V2 := Lib.hid (U2.out.below B7 U2.out.lt)
        have V3 := Lib.hid (U3.out.below B7 U3.out.lt)
        have VB := Lib.hid (UB.out.below B7 UB.out.lt)
        have BN : Hid (w.heap.size ≤ b1 ∧ q0 < b1 ∧ q1 < b1 ∧ q2 < b1 ∧ q3 < b1 ∧ g < b1) := by
          have h1 := U0.out.lt
          have h2 := U1.out.lt
          have h3 := U2.out.lt
          have h4 := U3.out.lt
          have h5 := UB.out.lt
          have h6 := E6.out.only.size
          exact ⟨by omega, by omega, by omega, by omega, by omega, by omega⟩
        rw [← hb1] at X5 X6 ⊢
        clear hw7 B7 z7 hb1 U0 U1 U2 U3 UB E6
        go_wp2_with fail
        have W0 : Looped w G F b d q0 q1 q2 q3 g [b1 + 1, b1, g, q3, q0, q1, q2] p K P s1 m [] w7 := ⟨G2, F2, E7.out, rfl, V0.out, V1.out, V2.out, V3.out, VB.out⟩
        have hPL : Hid (P.length = 512 * K) := by show _ = _; rw [EP.out, packed_length, ← EK.out]
        have B7 : Hid (w.heap.size ≤ w7.heap.size) := E7.out.only.size
        refine range_chunk 10 36 b1 (b1 + 1) g 0 K (512 * K) (some ⟨g, 0, none⟩) rfl (by omega) (fun _ => rfl) (fun _ => rfl) X5.out.lt X6.out.lt (cell_row X5.out rfl) (cell_row X6.out rfl)
          (Looped w G F b d q0 q1 q2 q3 g [b1 + 1, b1, g, q3, q0, q1, q2] p K P s1 m)
          (LeftBy w G F b d q1 q2 [b1 + 1, b1, g, q3, q0, q1, q2] p K P s1 m)
          (own_looped B7.out) (own_left B7.out) W0 ?assign ?body ?done ?stop
        case assign =>
          intro l x W K hK
          simp only [List.setIfInBounds_toArray, List.set_cons_succ, List.set_cons_zero] at hK ⊢
          gi_wp2
          exact hK
        case body =>
          rintro l1 pre x W ⟨G3, F3, he, h0, hq0, hq1, hq2, hq3, hu⟩ hpk
          simp only [List.setIfInBounds_toArray, List.set_cons_succ, List.set_cons_zero, sectV, Nat.zero_add]
          have hi := ix_lt x (show 0 < K by omega)
          have NX := Lib.hid (wroteO_next (P := P) (K := K) (s := s1) (m := m) (p := p) x h0)
          have ST := Lib.hid (writesO_stays (pre.map fun x => chunk P (ix K x)) p s1 m)
          have WT := Lib.hid (writesO_wait (pre.map fun x => chunk P (ix K x)) p s1 m)
          obtain ⟨o, ho⟩ : ∃ o, o = wroteO p K P s1 m pre := ⟨_, rfl⟩
          have ho' : o = writesO p (pre.map fun x => chunk P (ix K x)) s1 m := ho
          rw [← ho'] at ST WT
          rw [← ho] at he h0 NX
          clear ho ho'
          obtain ⟨z, sx, mx⟩ := o
          dsimp only at he h0 NX ST WT
          subst h0
          obtain ⟨Z, hZ⟩ : ∃ Z, Z = p + pre.length := ⟨_, rfl⟩
          rw [← hZ] at NX hq3
          have hZ9 : Z ≤ 8192 := by omega
          have EZ := Lib.hid hZ
          clear hZ
          have HE := Lib.hid he
          have R0 := Lib.hid hq0
          have R1 := Lib.hid hq1
          have R2 := Lib.hid hq2
          have R3 := Lib.hid hq3
          have RB := Lib.hid hu
          clear he hq0 hq1 hq2 hq3 hu
          obtain ⟨vx, hlog, _⟩ := HE.out.ld.log
          have C1 := Lib.hid (sector_any W.drew b d vx sx Z (hlog.only ((Only.refl [] W).drew) (fun _ _ hx => by cases hx)) (by have := ST.out.1; have := HS1.out.frm; omega) (by have := ST.out.2.1; have := HS1.out.ring; omega) (by have := ST.out.2.1; have := HS1.out.ring0; omega) (by have := ST.out.2.2.1; have := HS1.out.start; have := HS1.out.ring; omega) (by omega))
          clear hlog
          have c0 : ∀ k, (W.drew.drewN k).cell? ⟨q0, 0, none⟩ = some (.pointer (some ⟨b, 0, none⟩)) := fun k => (R0.out.drew.drewN k).cell 0
          have c3 : ∀ k, (W.drew.drewN k).cell? ⟨q3, 0, none⟩ = some (.int .i64 (Z : Int)) := fun k => (R3.out.drew.drewN k).cell 0
          have c0' : W.cell? ⟨q0, 0, none⟩ = some (.pointer (some ⟨b, 0, none⟩)) := R0.out.cell 0
          have c3' : W.cell? ⟨q3, 0, none⟩ = some (.int .i64 (Z : Int)) := R3.out.cell 0
          have C2 := Lib.hid (fun k => lwrite_o (W.drewN k) b d sx G3 F3 mx (sector sx Z) (some ⟨g, 512 * ix K x, none⟩) 512 512 (chunk P (ix K x)) (HE.out.ld.drewN k) ((RB.out.held.drewN k |> fun h => (Buf.mk h RB.out.bytes : Buf (W.drewN k) g P)).bts (by have := hPL.out; omega)) (by omega) (fun _ y hy hm => by
            injection hy with hy
            subst hy
            exact HE.out.far g (by simp) (List.mem_append.2 (.inr hm))) (by have h1 := WT.out; have h2 := HW.out; rw [List.length_map] at h1; omega))
          have hmx : Tryz.prog.follows .mixedOrders = true := by kernel_rfl
          gi_upto_region 13 with fail
          gi_cut [11] from 37 (fun v wr => ∃ k, v = .int .i64 (wrO sx mx (sector sx Z) (chunk P (ix K x))).1 ∧ LTurned (W.drewN k) b G3 d F3 wr (wrO sx mx (sector sx Z) (chunk P (ix K x))).2.1 (wrO sx mx (sector sx Z) (chunk P (ix K x))).2.2)
          case first =>
            gi_wp2
            gi_region_with_o (refine ⟨trivial, ?_⟩; first
              | (refine (CallsIn.inRound l1 (callsIn_wide.2 C1.out)).mono ?_; rintro e w' ⟨rfl, k, rfl⟩)
              | (refine (CallsIn.inRound l1 (callsIn_wide.2 (C2.out _))).mono ?_; rintro e w' ⟨rfl, ht⟩))
            all_goals
              gi_wp2
              gi_meet
              case rel => exact ⟨_, rfl, ht⟩
          case rest =>
            obtain ⟨k, rfl, ht⟩ := hcut
            obtain ⟨G4, F4, he, hkeep⟩ := (HE.out.drewN k).turned ht
            have HO : Only (G3 ++ F3) W wc := ((Only.refl (G3 ++ F3) W).drewN k).trans (by obtain ⟨_, _, _, h2, _, _⟩ := ht; exact h2) (fun _ h => .inl h)
            have S0 := Lib.hid (hkeep q0 (by simp) _ _ (R0.out.drewN k))
            have S1 := Lib.hid (hkeep q1 (by simp) _ _ (R1.out.drewN k))
            have S2 := Lib.hid (hkeep q2 (by simp) _ _ (R2.out.drewN k))
            have S3 := Lib.hid (hkeep q3 (by simp) _ _ (R3.out.drewN k))
            have SB : Hid (Buf wc g P) := ⟨hkeep g (by simp) _ _ (RB.out.held.drewN k), RB.out.bytes⟩
            have E4 := Lib.hid he
            have O4 := Lib.hid HO
            clear ht he hkeep HO C1 C2 c0 c3 c0' c3' R0 R1 R2 R3 RB
            rw [← NX.out] at E4 ⊢
            obtain ⟨y, hy⟩ : ∃ y, y = (wroteO p K P s1 m (pre ++ [x])).1 := ⟨_, rfl⟩
            have EY := Lib.hid hy
            rw [← hy]
            clear hy
            have QS : Hid ((∀ v ∈ [q1, q2, q3], v ∈ [b1 + 1, b1, g, q3, q0, q1, q2] ∧ w.heap.size ≤ v) ∧ (∀ v ∈ [q1, q2, q3], v < w7.heap.size ∧ v ≠ b1 ∧ v ≠ b1 + 1)) := by
              have h1 := QN.out
              have h2 := Q3.out
              have h3 := BN.out
              have h4 := X5.out.lt
              refine ⟨fun v hv => ?_, fun v hv => ?_⟩
              · simp only [List.mem_cons, List.not_mem_nil, or_false] at hv
                rcases hv with rfl | rfl | rfl
                · exact ⟨by simp, by omega⟩
                · exact ⟨by simp, by omega⟩
                · exact ⟨by simp, by omega⟩
              · simp only [List.mem_cons, List.not_mem_nil, or_false] at hv
                rcases hv with rfl | rfl | rfl <;> exact ⟨by omega, by omega, by omega⟩
            have KF : Hid (∀ W', Only ((G3 ++ F3) ++ [q1, q2, q3]) W W' → KeepsFrom w7.heap.size W W' ∧ KpBox b1 (b1 + 1) W W') := fun W' ho => by
              refine ⟨KeepsFrom.of_only ho (fun v hv => ?_), KpBox.only ho (HE.out.lt b1 (by simp)) (HE.out.lt (b1 + 1) (by simp)) (fun hv => ?_) (fun hv => ?_)⟩
              · rcases List.mem_append.1 hv with hv | hv
                · exact .inr (HE.out.blocks v hv)
                · exact .inl (QS.out.2 v hv).1
              · rcases List.mem_append.1 hv with hv | hv
                · exact HE.out.far b1 (by simp) hv
                · exact (QS.out.2 b1 hv).2.1 rfl
              · rcases List.mem_append.1 hv with hv | hv
                · exact HE.out.far (b1 + 1) (by simp) hv
                · exact (QS.out.2 (b1 + 1) hv).2.2 rfl
            have O5 : Hid (Only ((G3 ++ F3) ++ [q1, q2, q3]) W wc) := O4.out.mono (fun _ h => .inl (List.mem_append.2 (.inl h)))
            have d1 := S1.out.cell 0
            have d2 := S2.out.cell 0
            have d3 := S3.out.cell 0
            have g1 := S1.out.frozen 0
            have g2 := S2.out.frozen 0
            have g3 := S3.out.frozen 0
            have hZ9' : (Z : Int) ≤ 8192 := by omega
            by_cases hy : y = 0
            · subst hy
              gi_wp2
              refine ⟨(KF.out _ (O5.out.setCell (p := ⟨q3, 0, none⟩) (.inl (by simp)) (.int .i64 ((Z : Int) + 1)))).1, (KF.out _ (O5.out.setCell (p := ⟨q3, 0, none⟩) (.inl (by simp)) (.int .i64 ((Z : Int) + 1)))).2, G4, F4,
                E4.out.own ((Only.refl [q1, q2, q3] wc).setCell (p := ⟨q3, 0, none⟩) (.inl (by simp)) (.int .i64 ((Z : Int) + 1))) QS.out.1, EY.out.symm, S0.out.far Q3.out.2.1 _, S1.out.far Q3.out.2.2.1 _, S2.out.far Q3.out.2.2.2 _, ?_, ⟨SB.out.held.far GN.out.2.2.2.2 _, SB.out.bytes⟩⟩
              have e : ((p + (pre ++ [x]).length : Nat) : Int) = (Z : Int) + 1 := by rw [EZ.out, List.length_append]; simp; omega
              rw [e]
              exact S3.out.set_ 0 _
            · have hy1 : (y == 0) = false := by simpa using hy
              have hy2 : (y != 0) = true := by simpa using hy
              gi_wp2
              obtain ⟨r1, r2⟩ := two_cells (u1 := .int .i64 0) (u2 := .int .i64 y) S1.out S2.out n1
              have O6 := (O5.out.setCell (p := ⟨q1, 0, none⟩) (.inl (by simp)) (.int .i64 0)).setCell (p := ⟨q2, 0, none⟩) (.inl (by simp)) (.int .i64 y)
              have E5 := E4.out.own ((Only.refl [q1, q2, q3] wc).setCell (p := ⟨q1, 0, none⟩) (.inl (by simp)) (.int .i64 0) |>.setCell (p := ⟨q2, 0, none⟩) (.inl (by simp)) (.int .i64 y)) QS.out.1
              refine ⟨(KF.out _ O6).1, rfl, G4, F4, E5, ?_, r1, ?_⟩
              · rw [← EY.out]; exact hy
              · rw [← EY.out]; exact r2
        case done =>
          rintro D W hD ⟨G3, F3, he, h0, hq0, hq1, hq2, hq3, hu⟩ hK
          have eR : wroteO p K P s1 m (List.range K) = R := by rw [ER.out]; exact wroteO_all
          rw [eR] at he h0
          have hne : R.2.1.needs = s1.needs := by rw [ER.out]; exact (writesO_stays _ _ _ _).2.2.2.2.2
          rw [if_neg (by rw [h0]; simp)] at EO
          clear eR hq3 hu ER
          obtain ⟨z, sx, mx⟩ := R
          dsimp only at he h0 hne EO
          rw [← hne] at EO
          have hcnt : sx.needs.length ≤ 4000000000 := by rw [hne]; have := HS1.out.count; omega
          have HE := Lib.hid he
          have R0 := Lib.hid hq0
          have R1 := Lib.hid hq1
          have R2 := Lib.hid hq2
          have HK := Lib.hid hK
          have HD := Lib.hid hD
          clear he hq0 hq1 hq2 hK hD hne h0
          obtain ⟨vx, hlog, hG3⟩ := HE.out.ld.log
          have k0 := R0.out.cell 0
          have k6 := hlog.c6
          have HR := Lib.hid hlog.row
          have QF : Hid (q0 ∉ G3 ++ F3 ∧ b ∉ vx.ownBlock.toList ∧ q0 ∉ vx.ownBlock.toList) := by
            have h1 := HE.out.far q0 (by simp)
            refine ⟨h1, fun hm => hlog.far b (by simpa using hm) rfl, fun hm => h1 (List.mem_append.2 (.inl (by rw [hG3]; exact mem_logFoot.2 (.inr (by simpa using hm)))))⟩
          have BL : Hid (b < W.heap.size ∧ q0 < W.heap.size) := ⟨hlog.lt, R0.out.lt⟩
          clear hlog hG3
          go_upto_region 17 with fail
          have BA : Hid (Below W.heap.size W (W.alloc (.cells #[.int .i64 (K : Int)] 3)).drew) := ((Below.refl _ _).alloc (Nat.le_refl _) _).drew
          have EA : Hid (Env w G F (W.alloc (.cells #[.int .i64 (K : Int)] 3)).drew b d sx mx [b1 + 1, b1, g, q3, q0, q1, q2] G3 F3) := HE.out.under BA.out
          have RA : Hid (SRow (W.alloc (.cells #[.int .i64 (K : Int)] 3)).drew 3 1 vx sx.needs.length (needsV sx.needs)) := HR.out.only (Only.of_below (F := []) BA.out) (fun _ _ hx => by cases hx)
          have KA : Hid ((W.alloc (.cells #[.int .i64 (K : Int)] 3)).drew.cell? ⟨W.heap.size, 0, none⟩ = some (.int .i64 (K : Int))) := (Held.new W 3 #[.int .i64 (K : Int)] rfl).drew.cell 0
          have k6' : (W.alloc (.cells #[.int .i64 (K : Int)] 3)).drew.cell? ⟨b, 6, none⟩ = some vx := (BA.out.cell (p := ⟨b, 6, none⟩) BL.out.1).trans k6
          have K6 := Lib.hid k6'
          have kA0 : (W.alloc (.cells #[.int .i64 (K : Int)] 3)).cell? ⟨q0, 0, none⟩ = some (.pointer (some ⟨b, 0, none⟩)) := (World.cell?_alloc_past _ _ _ BL.out.2).trans k0
          have kA6 : (W.alloc (.cells #[.int .i64 (K : Int)] 3)).cell? ⟨b, 6, none⟩ = some vx := k6'
          obtain ⟨vz, hlz, hz⟩ := EA.out.ld.log
          have PK : Hid (∀ w3, (W.alloc (.cells #[.int .i64 (K : Int)] 3)).drew.grownBy w3 vx.ownBlock → w3.cell? ⟨b, 6, none⟩ = some vx ∧ w3.frozen? ⟨b, 6, none⟩ = false ∧ w3.cell? ⟨q0, 0, none⟩ = some (.pointer (some ⟨b, 0, none⟩))) := fun w3 hg => by
            have ho : Only vx.ownBlock.toList (W.alloc (.cells #[.int .i64 (K : Int)] 3)).drew w3 := (Only.refl _ _).grown hg (fun k hk => .inl (by simp [hk]))
            exact ⟨(ho.cell (p := ⟨b, 6, none⟩) hlz.lt QF.out.2.1).trans K6.out, (ho.frozen (p := ⟨b, 6, none⟩) hlz.lt QF.out.2.1).trans (hlz.tab.fr 6),
              (ho.cell (p := ⟨q0, 0, none⟩) (Nat.lt_of_lt_of_le BL.out.2 BA.out.size) QF.out.2.2).trans ((BA.out.cell (p := ⟨q0, 0, none⟩) BL.out.2).trans (R0.out.cell 0))⟩
          have SZ : Hid (W.heap.size < (W.alloc (.cells #[.int .i64 (K : Int)] 3)).drew.heap.size) := by show _ < (W.alloc _).heap.size; rw [World.size_alloc]; omega
          clear hlz hz
          obtain ⟨wA, hwA⟩ : ∃ wA, wA = (W.alloc (.cells #[.int .i64 (K : Int)] 3)).drew := ⟨_, rfl⟩
          go_cut [] from 48 (fun wr => LTurned wA b G3 d F3 wr { sx with needs := sx.needs ++ [K] } mx)
          case first =>
            subst hwA
            refine wp_region_noPanic ?_
            go_region_law (refine step_append_need rfl (.tmp 52) (.tmp 54) rfl vx sx.needs ?q3 RA.out W.heap.size 1 K ?q5 KA.out hcnt ?_; (case q3 => simp [Act.eval]); (case q5 => simp [Act.eval]); intro v' w3 hrow hgrow hblk; have g2 := (PK.out w3 hgrow).1; have g3 := (PK.out w3 hgrow).2.1; have g4 := (PK.out w3 hgrow).2.2; have hrow2 := Lib.hid hrow; obtain ⟨A', c', rfl⟩ := hrow.form; clear hrow)
            all_goals
              have T := LD.pushed EA.out.ld K6.out hrow2.out hgrow hblk
              rw [List.length_append] at T
              clear g2 g3 g4 hrow2 hgrow hblk PK
              refine NoPanic.normal ?_
              go_wp2_with fail
              go_meet
              case rel => exact T
          case rest =>
            subst hwA
            obtain ⟨G4, F4, e4, k4⟩ := EA.out.turned hcut
            have S1 := Lib.hid (k4 q1 (by simp) _ _ (R1.out.below BA.out R1.out.lt))
            have S2 := Lib.hid (k4 q2 (by simp) _ _ (R2.out.below BA.out R2.out.lt))
            have E4 := Lib.hid e4
            have DN : Hid (D ≠ q1 ∧ D ≠ q2 ∧ w.heap.size ≤ D) := by
              have h1 := HD.out
              have h2 := BN.out
              have h3 := X5.out.lt
              have h4 := B7.out
              exact ⟨by omega, by omega, by omega⟩
            have HKc : Hid (wc.heap[D]? = some (.deferred (some []))) := by
              obtain ⟨_, _, _, h2, _, _⟩ := hcut
              refine h2.heap ((BA.out.block D (Array.getElem?_eq_some_iff.1 HK.out).1).trans HK.out) (fun hm => ?_)
              obtain ⟨cs, t, mk, h5⟩ := HE.out.blocks D hm
              rw [HK.out] at h5
              cases h5
            clear hcut e4 k4 PK RA KA K6 k6' kA0 kA6 k0 k6 EA
            have d1 := S1.out.cell 0
            have d2 := S2.out.cell 0
            have g1 := S1.out.frozen 0
            have g2 := S2.out.frozen 0
            go_wp2_with fail
            obtain ⟨r1, r2⟩ := two_cells (u1 := .int .i64 (N : Int)) (u2 := .int .i64 0) S1.out S2.out n1
            have HKd : Hid (((wc.setCell ⟨q1, 0, none⟩ (.int .i64 (N : Int))).setCell ⟨q2, 0, none⟩ (.int .i64 0)).heap[D]? = some (.deferred (some []))) :=
              (Below.heap_setCell _ _ _ D DN.out.2.1).trans ((Below.heap_setCell _ _ _ D DN.out.1).trans HKc.out)
            have E5 := Lib.hid (E4.out.own ((Only.refl [q1, q2] wc).setCell (p := ⟨q1, 0, none⟩) (.inl (by simp)) (.int .i64 (N : Int)) |>.setCell (p := ⟨q2, 0, none⟩) (.inl (by simp)) (.int .i64 0)) (fun x hx => by
              simp only [List.mem_cons, List.not_mem_nil, or_false] at hx ⊢
              rcases hx with rfl | rfl
              · exact ⟨by simp, QN.out.2.1⟩
              · exact ⟨by simp, QN.out.2.2.1⟩))
            refine ⟨by simp, .inl ⟨_, _, rfl, run_takeDeferred HKd.out, ?_⟩⟩
            have hc4 := cell_kept (r1.cell 0) (grownBy_putObj' _ D (.deferred none)) (fun r e => by cases e; exact ⟨_, HKd.out, rfl⟩)
            have hc5 := cell_kept (r2.cell 0) (grownBy_putObj' _ D (.deferred none)) (fun r e => by cases e; exact ⟨_, HKd.out, rfl⟩)
            refine ⟨.tuple #[.int .i64 (N : Int), .int .i64 0], ?_, ?_⟩
            · simp [results, Tryz.f68, go_sem, hc4, hc5]
            · rw [EO.out]
              exact ⟨rfl, (E5.out.kept_row (grownBy_putObj' _ D (.deferred none)) (fun r e => by cases e; exact ⟨DN.out.2.2, _, HKd.out, rfl⟩)).done⟩
        case stop =>
          rintro D c j W hD hj ⟨rfl, G3, F3, he, h0, hq1, hq2⟩ hK
          have eR : R = wroteO p K P s1 m (List.range j) := by rw [ER.out, ← wroteO_stop hj h0]; exact wroteO_all.symm
          rw [← eR] at he h0 hq2
          rw [if_pos h0] at EO
          clear eR
          have k1 := hq1.cell 0
          have k2 := hq2.cell 0
          have HE := Lib.hid he
          have HK := Lib.hid hK
          clear he hK
          go_wp2_with fail
          refine ⟨by simp, .inl ⟨_, _, rfl, run_takeDeferred HK.out, ?_⟩⟩
          have hc4 := cell_kept k1 (grownBy_putObj' W D (.deferred none)) (fun r e => by cases e; exact ⟨_, HK.out, rfl⟩)
          have hc5 := cell_kept k2 (grownBy_putObj' W D (.deferred none)) (fun r e => by cases e; exact ⟨_, HK.out, rfl⟩)
          refine ⟨.tuple #[.int .i64 0, .int .i64 R.1], ?_, ?_⟩
          · simp [results, Tryz.f68, go_sem, hc4, hc5]
          · rw [EO.out]
            exact ⟨rfl, (HE.out.kept_row (grownBy_putObj' W D (.deferred none)) (fun r e => by cases e; exact ⟨by have := B7.out; omega, _, HK.out, rfl⟩)).done⟩
end Go.Proofs.YtkajneeihhobhaaGreat
