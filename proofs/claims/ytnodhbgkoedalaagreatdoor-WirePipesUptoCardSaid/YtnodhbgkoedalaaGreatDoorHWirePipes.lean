/-
  WirePipes: requests that come one behind the other over a connection are told one behind the other, each as it is alone, as long as none of them ends the connection; behind the last there is none (where all that comes in is of bulk at most 1048576).
-/
import Derived.Test.YtnodhbgkoedalaaGreatDoorQP7
namespace Go.Proofs.YtnodhbgkoedalaaGreatDoor.wirePipes
open Go.ChangeShapes Go.WideShapes Go.ChangeAt Go.RowKit Go.Deep Reply

/-- Between two rounds: the connection's reader is new; what is left are the texts that weren't taken yet. -/
structure Mid (w0 wr : World) (p : Nat) (A : Option Addr) (n : Nat) (L : List Reply.B) (i : Nat) : Prop where
  bel : Below w0.heap.size w0 wr
  list : Strs wr A n L
  lp : w0.heap.size ≤ p
  rest : ∃ v, CnAt wr p v false ∧ (((L.drop i).flatten = [] ∧ v = .slice none 0 0) ∨ ((L.drop i).flatten ≠ [] ∧ ∃ g off cp, v = .slice (some ⟨g, off, none⟩) (L.drop i).flatten.length cp ∧ (L.drop i).flatten.length ≤ cp ∧ g ≠ p ∧ Bk wr g off (L.drop i).flatten))
set_option maxRecDepth 100000 in
set_option maxHeartbeats 64000000 in
theorem walk (w : World) (E : Env w) (A : Option Addr) (n c : Nat) (L : List Reply.B) (hA : Strs w A n L) (hn : n ≤ 1048576) (hL : ∀ s ∈ L, s.length ≤ 1048576) :
    Calls Tryz.prog 7 #[.slice A n c] w fun e w' => e = .returned (.bool true) ∧ Below w.heap.size w w' := by
  have HE := Lib.hid E
  have FX := Lib.hid (fun u (K : Env u) => fixed_any closes_all u K)
  have HA := Lib.hid hA
  have HL := Lib.hid hL
  clear E hA hL
  by_cases h60 : n ≤ 60
  · have f60 : decide ((60 : Int) < (n : Int)) = false := decide_eq_false (by omega)
    have HF : Hid (∀ i, (L.take i).flatten.length ≤ 62914560 ∧ (L.drop i).flatten.length ≤ 62914560) := fun i => by
      have a := Wire.flat_le (l := L.take i) (m := 1048576) (fun s hs => HL.out s (List.mem_of_mem_take hs))
      have b := Wire.flat_le (l := L.drop i) (m := 1048576) (fun s hs => HL.out s (List.mem_of_mem_drop hs))
      have e := HA.out.1
      rw [List.length_take] at a
      rw [List.length_drop] at b
      have h1 : min i L.length ≤ 60 := by omega
      have h2 : L.length - i ≤ 60 := by omega
      have := Nat.mul_le_mul_right 1048576 h1
      have := Nat.mul_le_mul_right 1048576 h2
      omega
    go_enter Tryz.func7, Tryz.ntmps7
    go_wp2_with fail
    refine (FX.out _ HE.out).mono ?_
    rintro e w1 ⟨rfl, hb⟩
    have B1 := Lib.hid hb
    clear hb FX
    obtain ⟨W2, hW2⟩ : ∃ x, x = w1.alloc (.cells #[.int .i64 0, .int .i64 0, .int .i64 0, .int .i64 0, .string ⟨#[]⟩, .string ⟨#[]⟩, .slice none 0 0, .string ⟨#[]⟩, .bool false, .slice none 0 0, .bool false] 46) := ⟨_, rfl⟩
    have HW2 := Lib.hid hW2
    have C2 : Hid (CnAt W2 w1.heap.size (.slice none 0 0) false) := by show CnAt _ _ _ _; rw [hW2]; exact Held.new _ _ _ rfl
    have A2 : Hid (Below w1.heap.size w1 W2) := by show Below _ _ _; rw [hW2]; exact (Below.refl _ _).alloc (Nat.le_refl _) _
    have B2 : Hid (Below w.heap.size w W2) := B1.out.trans (A2.out.mono B1.out.size)
    have L2 : Hid (Strs W2 A n L) := HA.out.below B2.out
    obtain ⟨p, hp⟩ : ∃ p, p = w1.heap.size := ⟨_, rfl⟩
    have LP : Hid (w.heap.size ≤ p) := by show _ ≤ _; rw [hp]; exact B1.out.size
    rw [← hp] at C2
    have HP := Lib.hid hp
    clear hW2 hp
    go_wp2_with fail
    rw [← HW2.out, ← HP.out]
    go_loopw [4, 5] (fun v4 v5 wr => ∃ i : Nat, i ≤ n ∧ v4 = .string (S (L.take i).flatten) ∧ v5 = .int .i64 i ∧ wr = W2) (fun _ v5 _ => n - (intOf v5).toNat)
    case atStart => exact ⟨0, by omega, rfl, rfl, rfl⟩
    case round =>
      obtain ⟨i, hi, rfl, rfl, rfl⟩ := hrel
      by_cases hlt : i < n
      · obtain ⟨b, off, rfl, c0, hm, hd, ht⟩ := L2.out.at_ hlt
        have iz : (i : Int) < (n : Int) := by omega
        have T1 : S (L.take i).flatten ++ S (L.getD i []) = S (L.take (i + 1)).flatten := by rw [S_append, ht, List.flatten_append]; simp
        have z1 : (S (L.take i).flatten).size ≤ 62914560 := by rw [S_size]; exact (HF.out i).1
        have z2 : (S (L.getD i [])).size ≤ 1048576 := by rw [S_size]; exact HL.out _ hm
        generalize S (L.take i).flatten = x1 at *
        generalize S (L.getD i []) = x2 at *
        have e1 : ¬ 9223372036854775807 < x1.size + x2.size := by omega
        clear hm hd ht
        go_wp2_with fail
        go_roundw
        case rel => exact ⟨i + 1, by omega, rfl, by go_num, trivial⟩
        case measure => simp [intOf]; omega
      · obtain rfl : i = n := by omega
        have e1 : L.take i = L := List.take_of_length_le (by rw [HA.out.1]; exact Nat.le_refl _)
        rw [e1]
        have FD := Lib.hid (feed_any _ p L.flatten C2.out (by have := (HF.out 0).2; rw [List.drop_zero] at this; omega))
        go_wp2_with fail
        refine FD.out.mono ?_
        rintro e w3 ⟨rfl, f3, v, c3, h3⟩
        have M3 : Hid (Mid w w3 p A i L 0) := by
          have b3 : Below w.heap.size w w3 := B2.out.trans (f3.below B2.out.size LP.out)
          refine ⟨b3, HA.out.below b3, LP.out, v, c3, ?_⟩
          rw [List.drop_zero]
          rcases h3 with ⟨a1, a2⟩ | ⟨a1, g, cp, a2, a3, a4, a5⟩
          · exact .inl ⟨a1, a2⟩
          · refine .inr ⟨a1, g, 0, cp, a2, a3, ?_, a5⟩
            have := C2.out.lt
            omega
        clear f3 c3 h3 FD C2 L2 B2 A2 HW2
        go_wp2_with fail
        go_loopw [6] (fun v6 wr => ∃ j : Nat, j ≤ i ∧ v6 = .int .i64 j ∧ Hid (Mid w wr p A i L j)) (fun v6 _ => i - (intOf v6).toNat)
        case atStart => exact ⟨0, by omega, rfl, M3⟩
        case round =>
          obtain ⟨j, hj, rfl, M⟩ := hrel
          clear M3
          by_cases hlt : j < i
          · obtain ⟨b, off, rfl, c0, hm, hd, _⟩ := M.out.list.at_ hlt
            have jz : (j : Int) < (i : Int) := by omega
            obtain ⟨lj, hlj⟩ : ∃ x, x = L.getD j [] := ⟨_, rfl⟩
            rw [← hlj] at c0 hm hd
            have HD := Lib.hid hd
            have z1 : lj.length ≤ 1048576 := HL.out _ hm
            obtain ⟨q, k, cc, h1⟩ := Wire.reads_ex lj
            have G1 := Lib.hid h1
            obtain ⟨qm, hqm⟩ : ∃ x, x = S q.method := ⟨_, rfl⟩
            obtain ⟨qt, hqt⟩ : ∃ x, x = S q.target := ⟨_, rfl⟩
            obtain ⟨qb, hqb⟩ : ∃ x, x = S q.body := ⟨_, rfl⟩
            obtain ⟨qn, hqn⟩ : ∃ x, x = q.headers.length := ⟨_, rfl⟩
            obtain ⟨qc, hqc⟩ : ∃ x, x = q.close := ⟨_, rfl⟩
            obtain ⟨ls, hls⟩ : ∃ x, x = S lj := ⟨_, rfl⟩
            have R1 := Lib.hid (fun u (K : Env u) => readF u K lj (by omega) h1 hls hqm hqt hqb hqn hqc)
            have ssz : ls.size = lj.length := by rw [hls, S_size]
            have QM := Lib.hid hqm
            have QT := Lib.hid hqt
            have QB := Lib.hid hqb
            have QN := Lib.hid hqn
            have QC := Lib.hid hqc
            rw [← hls] at c0
            clear h1 hqm hqt hqb hqn hqc hls hlj hm hd
            by_cases hc : cc = 0
            · subst hc
              by_cases hk : k = lj.length
              · have fk : ((k : Int) != (ls.size : Int)) = false := by rw [hk, ssz]; simp
                have HK := Lib.hid hk
                clear hk
                obtain ⟨s', hr0, hqs⟩ := G1.out.run0
                have FL : Hid ((L.drop j).flatten = lj ++ (L.drop (j + 1)).flatten) := by show _ = _; rw [HD.out, List.flatten_cons]
                have HR : Hid (Wire.Runs Wire.reader Wire.s0 (L.drop j).flatten k 0 s') := by show Wire.Runs _ _ _ _ _ _; rw [FL.out]; exact hr0.app (by decide) _
                have kp : 0 < k := Wire.runs_pos hr0
                have NE : Hid ((L.drop j).flatten ≠ []) := fun e => by
                  have := HR.out.le
                  rw [e] at this
                  simp at this
                  omega
                have QS := Lib.hid hqs
                have CNT := Lib.hid (Wire.reads_cnt G1.out)
                clear hr0 hqs
                obtain ⟨g, o, cp, hC, hcp, hgp, hBk⟩ : ∃ g o cp, CnAt wr p (.slice (some ⟨g, o, none⟩) (L.drop j).flatten.length cp) false ∧ (L.drop j).flatten.length ≤ cp ∧ g ≠ p ∧ Bk wr g o (L.drop j).flatten := by
                  obtain ⟨v, hC, ⟨e, _⟩ | ⟨_, g, o, cp, rfl, h1, h2, h3⟩⟩ := M.out.rest
                  · exact absurd e NE.out
                  · exact ⟨g, o, cp, hC, h1, h2, h3⟩
                have HC := Lib.hid hC
                have HCP := Lib.hid hcp
                have HGP := Lib.hid hgp
                have HBK := Lib.hid hBk
                clear hC hcp hgp hBk
                go_wp2_with fail
                refine (R1.out _ (HE.out.below M.out.bel)).mono ?_
                rintro e w4 ⟨⟨A1, d1, rfl, hA1, hA0⟩, hb⟩
                obtain ⟨W5, hW5⟩ : ∃ x, x = w4.alloc (.cells #[.string qm, .string qt, .slice A1 qn d1, .string qb, .bool qc] 26) := ⟨_, rfl⟩
                have HW5 := Lib.hid hW5
                have X4 : Below w4.heap.size w4 W5 := by rw [hW5]; exact (Below.refl _ _).alloc (Nat.le_refl _) _
                have X5 := Lib.hid (hb.trans (X4.mono hb.size))
                have c5' : W5.cell? ⟨b, off + j, none⟩ = some (.string ls) := (X5.out.cell (p := ⟨b, off + j, none⟩) (block_lt c0)).trans c0
                have c5 : (w4.alloc (.cells #[.string qm, .string qt, .slice A1 qn d1, .string qb, .bool qc] 26)).cell? ⟨b, off + j, none⟩ = some (.string ls) := by rw [← hW5]; exact c5'
                have B5 : Hid (Below w.heap.size w W5) := M.out.bel.trans (X5.out.mono M.out.bel.size)
                have HA5 : Hid (HAt W5 A1 q.headers) := hA1.below X4
                have K5 : Hid (Held W5 w4.heap.size 26 #[.string qm, .string qt, .slice A1 qn d1, .string qb, .bool qc]) := by show Held _ _ _ _; rw [hW5]; exact Held.new _ _ _ rfl
                have C5 : Hid (CnAt W5 p (.slice (some ⟨g, o, none⟩) (L.drop j).flatten.length cp) false) := Held.below HC.out X5.out HC.out.lt
                have D5 := Lib.hid (HBK.out.below X5.out)
                have NX := Lib.hid (next_one HE.out LP.out B5.out C5.out D5.out HGP.out HCP.out (by have := (HF.out j).2; omega) HR.out)
                rw [← QS.out, ← QM.out, ← QT.out, ← QB.out, ← QN.out, ← QC.out] at NX
                have AP : Hid (∀ x, A1 = some x → x.block ≠ p) := fun x e => by have := hA0 x e; have := HC.out.lt; omega
                have P5 : Hid (p < w4.heap.size) := Nat.lt_of_lt_of_le HC.out.lt hb.size
                clear hA1 hA0 hb X4 R1 c0 hW5 c5'
                go_wp2_with fail
                rw [← HW5.out]
                refine NX.out.mono ?_
                rintro e w6 ⟨⟨A2, d2, rfl, hA2⟩, f6, hC6⟩
                obtain ⟨W7, hW7⟩ : ∃ x, x = w6.alloc (.cells #[.string qm, .string qt, .slice A2 qn d2, .string qb, .bool qc] 26) := ⟨_, rfl⟩
                have HW7 := Lib.hid hW7
                have X7 : Below w6.heap.size w6 W7 := by rw [hW7]; exact (Below.refl _ _).alloc (Nat.le_refl _) _
                have B6 : Below w.heap.size w w6 := B5.out.trans (f6.below B5.out.size LP.out)
                have B7 : Hid (Below w.heap.size w W7) := B6.trans (X7.mono B6.size)
                have K6 : Held w6 w4.heap.size 26 #[.string qm, .string qt, .slice A1 qn d1, .string qb, .bool qc] := (f6.block _ K5.out.lt (by have := P5.out; omega)).trans K5.out
                have K7 : Hid (Held W7 w4.heap.size 26 #[.string qm, .string qt, .slice A1 qn d1, .string qb, .bool qc]) := K6.below X7 K6.lt
                have J7 : Hid (Held W7 w6.heap.size 26 #[.string qm, .string qt, .slice A2 qn d2, .string qb, .bool qc]) := by show Held _ _ _ _; rw [hW7]; exact Held.new _ _ _ rfl
                have C7 : Hid (CnAt W7 p (nextV g (o + k) ((L.drop j).flatten.length - k) (cp - k) qc) qc) := Held.below hC6 X7 hC6.lt
                have D7 : Hid (Bk W7 g o (L.drop j).flatten) := (D5.out.fr f6 D5.out.lt HGP.out).below X7
                have HA7 : Hid (HAt W7 A2 q.headers) := hA2.below X7
                have HZ7 : Hid (HAt W7 A1 q.headers) := by
                  have : HAt w6 A1 q.headers := fun hp => by
                    obtain ⟨g1, o1, e, hl1, hc1⟩ := HA5.out hp
                    have hne : g1 ≠ p := AP.out _ e
                    exact ⟨g1, o1, e, Nat.lt_of_lt_of_le hl1 f6.size, fun j u hu => (World.cell?_of_block (a := ⟨g1, o1 + j, none⟩) (f6.block g1 hl1 hne)).trans (hc1 j u hu)⟩
                  exact this.below X7
                have SM := Lib.hid (fun u (hu : Below W7.heap.size W7 u) => sameN u q q A2 A1 d2 d1 (HA7.out.below hu) (HZ7.out.below hu) CNT.out QM.out QT.out QB.out QN.out QC.out QM.out QT.out QB.out QN.out QC.out)
                rw [show sameQ q q = true from decide_eq_true rfl] at SM
                have x0 := J7.out.cell 0
                have x1 := J7.out.cell 1
                have x2 := J7.out.cell 2
                have x3 := J7.out.cell 3
                have x4 := J7.out.cell 4
                have y0 := K7.out.cell 0
                have y1 := K7.out.cell 1
                have y2 := K7.out.cell 2
                have y3 := K7.out.cell 3
                have y4 := K7.out.cell 4
                obtain ⟨b7, hb7⟩ : ∃ x, x = w4.heap.size := ⟨_, rfl⟩
                obtain ⟨b10, hb10⟩ : ∃ x, x = w6.heap.size := ⟨_, rfl⟩
                rw [← hb7] at K7 y0 y1 y2 y3 y4
                rw [← hb10] at J7 x0 x1 x2 x3 x4
                have HB7 := Lib.hid hb7
                have HB10 := Lib.hid hb10
                clear hb7 hb10 hW7 X7 B6 K6 hA2 f6 hC6 NX K5 C5 D5 HA5 X5 c5
                go_upto_region 17 with fail
                rw [← HW7.out, ← HB7.out, ← HB10.out]
                refine wp_region_noPanic ?_
                refine wp_region_held_drew (S := fun w' => (w'.cell? ⟨b10, 0, none⟩ = some (.string qm) ∧ w'.cell? ⟨b10, 1, none⟩ = some (.string qt) ∧ w'.cell? ⟨b10, 2, none⟩ = some (.slice A2 qn d2) ∧ w'.cell? ⟨b10, 3, none⟩ = some (.string qb) ∧ w'.cell? ⟨b10, 4, none⟩ = some (.bool qc)) ∧ (w'.cell? ⟨b7, 0, none⟩ = some (.string qm) ∧ w'.cell? ⟨b7, 1, none⟩ = some (.string qt) ∧ w'.cell? ⟨b7, 2, none⟩ = some (.slice A1 qn d1) ∧ w'.cell? ⟨b7, 3, none⟩ = some (.string qb) ∧ w'.cell? ⟨b7, 4, none⟩ = some (.bool qc))) (by kernel_rfl) ⟨⟨x0, x1, x2, x3, x4⟩, y0, y1, y2, y3, y4⟩ (fun hHeld => ?_)
                refine take_ (i := 0) (v := ?_) 73 rfl rfl (by kernel_rfl) (by kernel_rfl) (by kernel_rfl) (fun _ _ _ h => h) (Or.inl ⟨by rfl, ?_⟩) (by assumption) ?_
                rotate_left
                · (intro wS hSw; (try dsimp only at hSw); go_simp; try with_reducible rfl)
                simp only [Act.put, List.setIfInBounds_toArray, List.set_cons_zero, List.set_cons_succ]
                refine take_ (i := 1) (v := ?_) 74 rfl rfl (by kernel_rfl) (by kernel_rfl) (by kernel_rfl) (fun _ _ _ h => h) (Or.inl ⟨by rfl, ?_⟩) (by assumption) ?_
                rotate_left
                · (intro wS hSw; (try dsimp only at hSw); go_simp; try with_reducible rfl)
                simp only [Act.put, List.setIfInBounds_toArray, List.set_cons_zero, List.set_cons_succ]
                refine take_ (i := 2) (v := ?_) 75 rfl rfl (by kernel_rfl) (by kernel_rfl) (by kernel_rfl) (fun _ _ _ h => h) (Or.inl ⟨by rfl, ?_⟩) (by assumption) ?_
                rotate_left
                · (intro wS hSw; (try dsimp only at hSw); go_simp; try with_reducible rfl)
                simp only [Act.put, List.setIfInBounds_toArray, List.set_cons_zero, List.set_cons_succ]
                refine take_ (i := 3) (v := ?_) 76 rfl rfl (by kernel_rfl) (by kernel_rfl) (by kernel_rfl) (fun _ _ _ h => h) (Or.inl ⟨by rfl, ?_⟩) (by assumption) ?_
                rotate_left
                · (intro wS hSw; (try dsimp only at hSw); go_simp; try with_reducible rfl)
                simp only [Act.put, List.setIfInBounds_toArray, List.set_cons_zero, List.set_cons_succ]
                refine take_ (i := 4) (v := ?_) 77 rfl rfl (by kernel_rfl) (by kernel_rfl) (by kernel_rfl) (fun _ _ _ h => h) (Or.inl ⟨by rfl, ?_⟩) (by assumption) ?_
                rotate_left
                · (intro wS hSw; (try dsimp only at hSw); go_simp; try with_reducible rfl)
                simp only [Act.put, List.setIfInBounds_toArray, List.set_cons_zero, List.set_cons_succ]
                refine take_ (i := 5) (v := ?_) 78 rfl rfl (by kernel_rfl) (by kernel_rfl) (by kernel_rfl) (fun _ _ _ h => h) (Or.inl ⟨by rfl, ?_⟩) (by assumption) ?_
                rotate_left
                · (intro wS hSw; (try dsimp only at hSw); go_simp; try with_reducible rfl)
                simp only [Act.put, List.setIfInBounds_toArray, List.set_cons_zero, List.set_cons_succ]
                refine take_ (i := 6) (v := ?_) 79 rfl rfl (by kernel_rfl) (by kernel_rfl) (by kernel_rfl) (fun _ _ _ h => h) (Or.inl ⟨by rfl, ?_⟩) (by assumption) ?_
                rotate_left
                · (intro wS hSw; (try dsimp only at hSw); go_simp; try with_reducible rfl)
                simp only [Act.put, List.setIfInBounds_toArray, List.set_cons_zero, List.set_cons_succ]
                refine take_ (i := 7) (v := ?_) 80 rfl rfl (by kernel_rfl) (by kernel_rfl) (by kernel_rfl) (fun _ _ _ h => h) (Or.inl ⟨by rfl, ?_⟩) (by assumption) ?_
                rotate_left
                · (intro wS hSw; (try dsimp only at hSw); go_simp; try with_reducible rfl)
                simp only [Act.put, List.setIfInBounds_toArray, List.set_cons_zero, List.set_cons_succ]
                refine take_ (i := 8) (v := ?_) 81 rfl rfl (by kernel_rfl) (by kernel_rfl) (by kernel_rfl) (fun _ _ _ h => h) (Or.inl ⟨by rfl, ?_⟩) (by assumption) ?_
                rotate_left
                · (intro wS hSw; (try dsimp only at hSw); go_simp; try with_reducible rfl)
                simp only [Act.put, List.setIfInBounds_toArray, List.set_cons_zero, List.set_cons_succ]
                refine one_ (i := 9) _ (by kernel_rfl) rfl (fun K hK => ?_)
                go_simp
                refine (SM.out _ ((Below.refl W7.heap.size W7).drew)).mono ?_
                rintro x w8 ⟨rfl, hb8⟩
                dsimp only
                have X8 : Below W7.heap.size W7 w8 := ((Below.refl W7.heap.size W7).drew).trans hb8
                have B8 : Hid (Below w.heap.size w w8) := B7.out.trans (X8.mono B7.out.size)
                have K8 := Lib.hid (K7.out.below X8 K7.out.lt)
                have J8 := Lib.hid (J7.out.below X8 J7.out.lt)
                have C8 : Hid (CnAt w8 p (nextV g (o + k) ((L.drop j).flatten.length - k) (cp - k) qc) qc) := Held.below C7.out X8 C7.out.lt
                have D8 := Lib.hid (D7.out.below X8)
                clear hb8 X8 SM x0 x1 x2 x3 x4 y0 y1 y2 y3 y4 C7 D7 K7 J7 HA7 HZ7 B7
                refine hK.out _ _ ⟨⟨J8.out.cell 0, J8.out.cell 1, J8.out.cell 2, J8.out.cell 3, J8.out.cell 4⟩, K8.out.cell 0, K8.out.cell 1, K8.out.cell 2, K8.out.cell 3, K8.out.cell 4⟩ (fun hHeld => ?_)
                clear hK K
                refine take_ (i := 10) (v := ?_) 83 rfl rfl (by kernel_rfl) (by kernel_rfl) (by kernel_rfl) (fun _ _ _ h => h) (Or.inl ⟨by rfl, ?_⟩) (by assumption) ?_
                rotate_left
                · (intro wS hSw; (try dsimp only at hSw); go_simp; try with_reducible rfl)
                simp only [Act.put, List.setIfInBounds_toArray]
                refine take_ (i := 11) (v := ?_) 84 rfl rfl (by kernel_rfl) (by kernel_rfl) (by kernel_rfl) (fun _ _ _ h => h) (Or.inl ⟨by rfl, ?_⟩) (by assumption) ?_
                rotate_left
                · (intro wS hSw; (try dsimp only at hSw); go_simp; try with_reducible rfl)
                simp only [Act.put, List.setIfInBounds_toArray]
                refine take_ (i := 12) (v := ?_) 85 rfl rfl (by kernel_rfl) (by kernel_rfl) (by kernel_rfl) (fun _ _ _ h => h) (Or.inl ⟨by rfl, ?_⟩) (by assumption) ?_
                rotate_left
                · (intro wS hSw; (try dsimp only at hSw); go_simp; try with_reducible rfl)
                simp only [Act.put, List.setIfInBounds_toArray]
                refine take_ (i := 13) (v := ?_) 86 rfl rfl (by kernel_rfl) (by kernel_rfl) (by kernel_rfl) (fun _ _ _ h => h) (Or.inl ⟨by rfl, ?_⟩) (by assumption) ?_
                rotate_left
                · (intro wS hSw; (try dsimp only at hSw); go_simp; try with_reducible rfl)
                simp only [Act.put, List.setIfInBounds_toArray]
                refine take_ (i := 15) (v := ?_) 88 rfl rfl (by kernel_rfl) (by kernel_rfl) (by kernel_rfl) (fun _ _ _ h => h) (Or.inl ⟨by rfl, ?_⟩) (by assumption) ?_
                rotate_left
                · (intro wS hSw; (try dsimp only at hSw); go_simp; try with_reducible rfl)
                simp only [Act.put, List.setIfInBounds_toArray]
                refine take_ (i := 16) (v := ?_) 89 rfl rfl (by kernel_rfl) (by kernel_rfl) (by kernel_rfl) (fun _ _ _ h => h) (Or.inl ⟨by rfl, ?_⟩) (by assumption) ?_
                rotate_left
                · (intro wS hSw; (try dsimp only at hSw); go_simp; try with_reducible rfl)
                simp only [Act.put, List.setIfInBounds_toArray]
                refine one_ (i := 14) _ (by kernel_rfl) rfl (fun K hK => ?_)
                go_simp
                refine (closed_any _ p _ _ C8.out).mono ?_
                rintro x w9 ⟨rfl, rfl⟩
                dsimp only
                have qq : (qc != qc) = false := by cases qc <;> rfl
                refine hK.out _ _ ⟨⟨J8.out.cell 0, J8.out.cell 1, J8.out.cell 2, J8.out.cell 3, J8.out.cell 4⟩, K8.out.cell 0, K8.out.cell 1, K8.out.cell 2, K8.out.cell 3, K8.out.cell 4⟩ (fun hHeld => ?_)
                clear hK K
                refine take_ (i := 17) (v := ?_) 90 rfl rfl (by kernel_rfl) (by kernel_rfl) (by kernel_rfl) (fun _ _ _ h => h) (Or.inl ⟨by rfl, ?_⟩) (by assumption) ?_
                rotate_left
                · (intro wS hSw; (try dsimp only at hSw); go_simp; try with_reducible rfl)
                simp only [Act.put, List.setIfInBounds_toArray]
                refine take_ (i := 18) (v := ?_) 91 rfl rfl (by kernel_rfl) (by kernel_rfl) (by kernel_rfl) (fun _ _ _ h => h) (Or.inl ⟨by rfl, ?_⟩) (by assumption) ?_
                rotate_left
                · (intro wS hSw; (try dsimp only at hSw); go_simp; try with_reducible rfl)
                simp only [Act.put, List.setIfInBounds_toArray]
                refine wpAnyH_done (by kernel_rfl) ?_ _
                refine NoPanic.normal ?_
                have k4 := K8.out.cell 4
                cases qc with
                | true =>
                  clear qq
                  go_wp2_with fail
                  go_ret
                  exact ⟨rfl, B8.out⟩
                | false =>
                  have M8 : Hid (Mid w w8 p (some ⟨b, off, none⟩) i L (j + 1)) := ⟨B8.out, HA.out.below B8.out, LP.out, rest_next FL.out HK.out.symm D8.out HCP.out HGP.out (by have := C8.out; unfold nextV at this; rw [if_neg (by simp)] at this; exact this)⟩
                  clear qq
                  go_wp2_with fail
                  go_roundw
                  case rel => exact ⟨j + 1, by omega, by go_num, M8⟩
                  case measure => simp [intOf]; omega
              · have fk : ((k : Int) != (ls.size : Int)) = true := by rw [bne_iff_ne, ssz]; omega
                have fk2 : ((k : Int) == (ls.size : Int)) = false := by rw [beq_eq_false_iff_ne, ssz]; omega
                go_wp2_with fail
                refine (R1.out _ (HE.out.below M.out.bel)).mono ?_
                rintro e w4 ⟨⟨A1, d1, rfl, hA1, hA0⟩, hb⟩
                have X4 : Below w4.heap.size w4 (w4.alloc (.cells #[.string qm, .string qt, .slice A1 qn d1, .string qb, .bool qc] 26)) := (Below.refl _ _).alloc (Nat.le_refl _) _
                have c5 : (w4.alloc (.cells #[.string qm, .string qt, .slice A1 qn d1, .string qb, .bool qc] 26)).cell? ⟨b, off + j, none⟩ = some (.string ls) := ((hb.trans (X4.mono hb.size)).cell (p := ⟨b, off + j, none⟩) (block_lt c0)).trans c0
                have B5 : Hid (Below w.heap.size w (w4.alloc (.cells #[.string qm, .string qt, .slice A1 qn d1, .string qb, .bool qc] 26))) := M.out.bel.trans ((hb.trans (X4.mono hb.size)).mono M.out.bel.size)
                clear hA1 hA0 hb X4 R1 c0
                go_wp2_with fail
                go_ret
                exact ⟨rfl, B5.out⟩
            · have fc : (cc != 0) = true := by rw [bne_iff_ne]; exact hc
              have fc2 : (cc == 0) = false := by rw [beq_eq_false_iff_ne]; exact hc
              go_wp2_with fail
              refine (R1.out _ (HE.out.below M.out.bel)).mono ?_
              rintro e w4 ⟨⟨A1, d1, rfl, hA1, hA0⟩, hb⟩
              have X4 : Below w4.heap.size w4 (w4.alloc (.cells #[.string qm, .string qt, .slice A1 qn d1, .string qb, .bool qc] 26)) := (Below.refl _ _).alloc (Nat.le_refl _) _
              have c5 : (w4.alloc (.cells #[.string qm, .string qt, .slice A1 qn d1, .string qb, .bool qc] 26)).cell? ⟨b, off + j, none⟩ = some (.string ls) := ((hb.trans (X4.mono hb.size)).cell (p := ⟨b, off + j, none⟩) (block_lt c0)).trans c0
              have B5 : Hid (Below w.heap.size w (w4.alloc (.cells #[.string qm, .string qt, .slice A1 qn d1, .string qb, .bool qc] 26))) := M.out.bel.trans ((hb.trans (X4.mono hb.size)).mono M.out.bel.size)
              clear hA1 hA0 hb X4 R1 c0
              go_wp2_with fail
              go_ret
              exact ⟨rfl, B5.out⟩
          · obtain rfl : j = i := by omega
            have C4 : Hid (CnAt wr p (.slice none 0 0) false) := by
              obtain ⟨v, c, h⟩ := M.out.rest
              have e2 : (L.drop j).flatten = [] := by rw [List.drop_eq_nil_of_le (by rw [HA.out.1]; exact Nat.le_refl _)]; rfl
              rcases h with ⟨_, rfl⟩ | ⟨h, _⟩
              · exact c
              · exact absurd e2 h
            have NM := Lib.hid (next_more HE.out LP.out M.out.bel C4.out)
            have B4 : Hid (∀ u, Fr wr.heap.size p wr u → Below w.heap.size w u) := fun u f => M.out.bel.trans (f.below M.out.bel.size LP.out)
            go_wp2_with fail
            refine NM.out.mono ?_
            rintro e w5 ⟨rfl, f5⟩
            have B5 := Lib.hid (B4.out _ f5)
            have B6 : Hid (∀ o, Below w.heap.size w (w5.alloc o)) := fun o => B5.out.alloc B5.out.size o
            clear f5 NM
            go_wp2_with fail
            go_ret
            exact ⟨rfl, B6.out _⟩
  · have f60 : decide ((60 : Int) < (n : Int)) = true := decide_eq_true (by omega)
    go_enter Tryz.func7, Tryz.ntmps7
    go_wp2_with fail
    refine (FX.out _ HE.out).mono ?_
    rintro e w1 ⟨rfl, hb⟩
    have B1 := Lib.hid hb
    clear hb
    go_wp2_with fail
    refine (FX.out _ (HE.out.below B1.out)).mono ?_
    rintro e w2 ⟨rfl, hb⟩
    have B2 := Lib.hid (B1.out.trans (hb.mono B1.out.size))
    clear hb
    go_wp2_with fail
    go_ret
    exact ⟨rfl, B2.out⟩
set_option maxRecDepth 100000 in
theorem opens {H : Type} {enc : TypeId × Value → H} {W : World} {base : Nat} {args : Array Value} {ds : List (DataW H)} {p : List MemPlace}
    (hval : ∀ (j : Nat) t v, Tryz.f7.params[j]? = some t → args[j]? = some v → Value.okWide Tryz.prog W .any base t v)
    (hA : DataW.TrodAll enc Tryz.prog W 0 (fun _ => true) true Tryz.f7.params.toList args.toList ds p) (hlt : ∀ x ∈ p, x.block < W.heap.size) (hk : Rows.uptoBulkAll ds ≤ 1048576) (hE : Env W) :
    Calls Tryz.prog 7 args W fun e W' => e = .returned (.bool true) ∧ Below W.heap.size W W' := by
  rw [Tryz.params7] at hA hval
  obtain ⟨v0, vs0, d0, ds0, p0, q0, hargs, rfl, rfl, h0, r0⟩ := trodAll_cons hA
  obtain ⟨rfl, rfl, rfl⟩ := trodAll_nil r0
  obtain rfl : args = #[v0] := Array.toList_inj.1 hargs
  simp only [Rows.uptoBulkAll] at hk
  obtain ⟨A, n, c, l, rfl, hl, h1, h2⟩ := open_list (hval 0 40 v0 rfl rfl) h0 (by omega)
  exact walk W hE A n c l hl h1 h2
theorem witness_row (os : Os) {H : Type} (enc : TypeId × Value → H) :
    (Rows.OpenSpec.upto Rows.wirePipesSpec).preRow enc Tryz.prog Tryz.f7 Rows.wirePipesUptoRow.domain false Rows.wirePipesUptoRow.laid ((startW os).forCall (fun _ _ => 0) ⟨#[], #[.slice none 0 0], []⟩).memory #[.slice none 0 0] := by
  have hw : (DataW.whole enc Tryz.prog ((startW os).forCall (fun _ _ => 0) ⟨#[], #[.slice none 0 0], []⟩).memory Tryz.f7.params.toList Rows.wirePipesSpec.vars false (#[.slice none 0 0] : Array Value).toList 8).map (fun x => (x.1, x.2.1)) =
      some ([.nil], []) := by kernel_rfl
  obtain ⟨⟨x1, x2, x3⟩, hx, hx1⟩ := Option.map_eq_some_iff.1 hw
  simp only [Prod.mk.injEq] at hx1
  obtain ⟨rfl, rfl⟩ := hx1
  exact OpenSpec.preRow_of_cond 8 hx (by kernel_rfl) (fun k hk => by cases hk; kernel_rfl) (by kernel_rfl) (door_met os _)
set_option maxRecDepth 100000 in
theorem lifted (os : Os) (started : os.Started) (H : Type) (enc : TypeId × Value → H) (F : Stop.Interp) :
    ReturnsInHanded {} Tryz.checked os 7 .any ((Rows.OpenSpec.upto Rows.wirePipesSpec).preRow enc Tryz.prog Tryz.f7 Rows.wirePipesUptoRow.domain false Rows.wirePipesUptoRow.laid) (((Rows.OpenSpec.upto Rows.wirePipesSpec).at F).post enc Tryz.prog Tryz.f7 false true false false) := by
  refine returnsInHanded_of_row (C := Tryz.checked) (s := Rows.OpenSpec.upto Rows.wirePipesSpec) own started (by kernel_rfl) Tryz.func7
    (witness_row_atRef (enc := enc) (C := Tryz.checked) false (startW os) #[.slice none 0 0] rfl (by kernel_rfl) (by kernel_rfl) (by kernel_rfl) (witness_row os enc)) ?_
  intro W base args ds gs before hval hW _ hcond _ hL hsh _
  have hk := hcond _ rfl
  refine law_calls (s := Rows.wirePipesSpec) laidOut Tryz.underlying4 rfl (by rw [Tryz.params7]; exact of_decide_eq_true (by kernel_rfl)) rfl (fun ds h => by match ds, h with | [_], _ => rfl) hW ?_
  obtain ⟨rfl, p, hA, hlt⟩ := law_args rfl hW
  have hb : Rows.uptoBulkAll (ds ++ []) ≤ 1048576 := of_decide_eq_true hk
  rw [List.append_nil] at hb
  exact opens hval hA hlt hb (env_of hL hsh)

theorem saidUpto : Rows.WirePipesUptoSaid :=
  OpenClaim.holds_of_cond 7 Tryz.f7 rfl rfl rfl rfl rfl rfl rfl ⟨rfl, rfl, rfl, rfl, rfl⟩ rfl rfl rfl rfl rfl (by kernel_rfl) Tryz.func7 (by kernel_rfl)
    (of_decide_eq_true (by kernel_rfl)) (by unfold Func.isWrapper; first | (rw [if_pos (by decide +kernel)]; kernel_rfl) | (rw [if_neg (by decide +kernel)]; exact ⟨rfl, rfl⟩))
    (fun os started H enc _ F => by rw [OpenClaim.pre_eq_preRow]; exact lifted os started H enc F)
theorem plain (f : FuncId) (fn : Func) (hf : Tryz.pinned.checked.prog.funcNamed "docket/docketlaw11.WirePipes" = some f) (hfn : Tryz.pinned.checked.prog.funcs[f]? = some fn) :
    true = Tryz.pinned.checked.prog.looks [] ∧ ∀ (j : Nat) t, fn.params[j]? = some t → Tryz.pinned.checked.prog.wantsStandIn t = false := by
  obtain rfl : f = 7 := Option.some.inj ((show Tryz.prog.funcNamed "docket/docketlaw11.WirePipes" = some 7 by kernel_rfl).symm.trans hf) |>.symm
  obtain rfl : fn = Tryz.f7 := (Option.some.inj (Tryz.func7.symm.trans hfn)).symm
  exact ⟨by kernel_rfl, fun j t ht => (of_decide_eq_true (p := ∀ t ∈ Tryz.f7.params.toList, Tryz.prog.wantsStandIn t = false) (by kernel_rfl)) t (Array.mem_toList_iff.2 (Array.mem_of_getElem? ht))⟩
theorem proved : Rows.WirePipesUptoCardSaid :=
  Claim7.holds_tied_plain_at .later [] _ _ _ _ saidUpto (fun _ h => by cases h) (by kernel_rfl) (fun _ h => by cases h) wirePipesUpto_row_tie rfl ⟨rfl, rfl⟩ (by kernel_rfl) rfl plain (by kernel_rfl)

end Go.Proofs.YtnodhbgkoedalaaGreatDoor.wirePipes
