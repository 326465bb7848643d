/-
  The law's put: a text is written, or a blob copied.
-/
import Derived.Test.YtlofpbmceipkkaaM34
namespace Go.Proofs.Ytlofpbmceipkkaa
open Go.RowKit Wal Blob

/-- What Write or Clone has answered. -/
def PutR (B p n : Nat) (f : Nat → Option KB) (l : List Nat) (w : World) (vh ve : Value) (wc : World) : Prop :=
  (49152 < l.length ∧ vh = .int .i64 0 ∧ ve = .int .i64 5 ∧ MemAt B wc p n f ∧ Kp B w wc) ∨
  (l.length ≤ 49152 ∧ ∃ (h : Nat) (parts : List Nat) (f' : Nat → Option KB), vh = .int .i64 (h : Int) ∧ ve = .int .i64 0 ∧ MemAt B wc p n f' ∧ Kp B w wc ∧ Laid n f f' h parts l) ∨
  (l.length ≤ 49152 ∧ vh = .int .i64 0 ∧ ve = .int .i64 12 ∧ MemAt B wc p n f ∧ Kp B w wc ∧ n < cnt n f + needL l.length)
theorem usedL_take (bl : List BL) (k : Nat) (hk : k < bl.length) : usedL (bl.take (k + 1)) = usedL (bl.take k) + needL bl[k].l.length := by
  rw [List.take_succ_eq_append_getElem hk, usedL_append]
  rfl
theorem needL_le {k : Nat} (h : k ≤ 49152) : needL k ≤ 97 := by
  unfold needL needB
  split <;> omega
theorem usedL_le (bl : List BL) (h : ∀ b ∈ bl, b.l.length ≤ 49152) : usedL bl ≤ bl.length * 97 := by
  induction bl with
  | nil => simp [usedL]
  | cons b r ih =>
    have h1 := ih (fun x hx => h x (by simp [hx]))
    have h2 := needL_le (h b (by simp))
    have e : usedL (b :: r) = needL b.l.length + usedL r := rfl
    rw [e, List.length_cons]
    omega
theorem h_one (w : World) (b : BL) (g : Nat) (hg : g = w.heap.size) : HAt (w.alloc (.cells #[.int .i64 (b.h : Int), strV b.l] 35)) (some ⟨g, 0, none⟩) [b] := fun _ => by
  subst hg
  refine ⟨_, 0, rfl, by simp, fun j u hu => ?_⟩
  rw [Nat.zero_add, World.cell?_alloc_new]
  have e : rowH [b] = [.int .i64 (b.h : Int), strV b.l] := rfl
  rw [e] at hu
  simpa using hu
set_option maxRecDepth 100000 in
set_option maxHeartbeats 3200000 in
theorem put_any (B : Nat) (w : World) (hB : B ≤ w.heap.size) (p n : Nat) (hn : n ≤ 4096) (f : Nat → Option KB) (hm : MemAt B w p n f) (bl : List BL) (v : Value) (hv : OwnH w B v bl) (hg : Good n f bl) (h60 : bl.length ≤ 60) (l : List Nat) (hl8 : ∀ x ∈ l, x < 256) (hlm : l.length ≤ maxLen)
    (fr : Int) (hfr : fr = -1 ∨ ∃ k : Nat, ∃ hk : k < bl.length, fr = (k : Int) ∧ bl[k].l = l) :
    Calls Try.prog 8 #[.pointer (some ⟨p, 0, none⟩), .int .i64 (n : Int), v, strV l, .int .i64 fr] w fun e w' => ∃ v' bl' f', e = .returned (.tuple #[v', .bool true]) ∧ OwnH w' B v' bl' ∧ Good n f' bl' ∧ MemAt B w' p n f' ∧ Below B w w' ∧ bl'.length ≤ bl.length + 1 := by
  obtain ⟨A, c, rfl, hcap, ha⟩ := hv.any
  have OV := Lib.hid hv
  have HA := Lib.hid ha
  have GD := Lib.hid hg
  have MM := Lib.hid hm
  have L8 := Lib.hid hl8
  have LM := Lib.hid hlm
  have sz := strB_size l
  clear hv ha hg hm hl8 hlm
  unfold strV
  go_enter Try.func8, Try.ntmps8
  go_upto_if 21 with fail
  go_cut [12, 13] (fun vh ve wc => PutR B p n f l w vh ve wc)
  case first =>
    rcases hfr with rfl | ⟨k, hk, rfl, hkl⟩
    · by_cases c1 : 49152 < l.length
      · have WL := Lib.hid (write_long w p (strB l) (by rw [sz]; exact c1))
        unfold sto at WL
        go_wp2_with fail
        refine WL.out.mono ?_
        rintro e w2 ⟨rfl, hb⟩
        have R : Hid (PutR B p n f l w (.int .i64 0) (.int .i64 5) w2) := .inl ⟨c1, rfl, rfl, MM.out.under hb, Kp.under hb⟩
        clear hb WL
        go_wp2_with fail
        go_meet
        case rel => exact R.out
      · have WR := Lib.hid (bwrite_all B w hB p n f MM.out l (by omega) L8.out)
        unfold sto strV at WR
        go_wp2_with fail
        refine WR.out.mono ?_
        rintro e w2 (⟨h, parts, f', rfl, m, k, la⟩ | ⟨rfl, m, k, hs⟩)
        · have R : Hid (PutR B p n f l w (.int .i64 (h : Int)) (.int .i64 0) w2) := .inr (.inl ⟨by omega, h, parts, f', rfl, rfl, m, k, la⟩)
          clear m k la WR
          go_wp2_with fail
          go_meet
          case rel => exact R.out
        · have R : Hid (PutR B p n f l w (.int .i64 0) (.int .i64 12) w2) := .inr (.inr ⟨by omega, rfl, rfl, m, k, hs⟩)
          clear m k hs WR
          go_wp2_with fail
          go_meet
          case rel => exact R.out
    · have nk : ¬ (k : Int) < 0 := by omega
      have lk : (k : Int) < (bl.length : Int) := by omega
      obtain ⟨g, off, rfl, cc, _⟩ := HA.out.at_ hk
      have TH := GD.out.each bl[k] (List.getElem_mem hk)
      have CL := Lib.hid (bclone_all B w hB p n f MM.out bl[k].h bl[k].parts bl[k].l TH)
      have l49 := TH.most
      rw [hkl] at CL l49
      unfold sto at CL
      generalize bl[k].h = hh at *
      clear TH hkl
      go_wp2_with fail
      refine CL.out.mono ?_
      rintro e w2 (⟨h, parts, f', rfl, m, k, la⟩ | ⟨rfl, m, k, hs⟩)
      · have R : Hid (PutR B p n f l w (.int .i64 (h : Int)) (.int .i64 0) w2) := .inr (.inl ⟨l49, h, parts, f', rfl, rfl, m, k, la⟩)
        clear m k la CL
        go_wp2_with fail
        go_meet
        case rel => exact R.out
      · have R : Hid (PutR B p n f l w (.int .i64 0) (.int .i64 12) w2) := .inr (.inr ⟨l49, rfl, rfl, m, k, hs⟩)
        clear m k hs CL
        go_wp2_with fail
        go_meet
        case rel => exact R.out
  case rest =>
    have CUT := Lib.hid hcut
    have KC : Hid (Kp B w wc) := by
      rcases hcut with ⟨_, _, _, _, k⟩ | ⟨_, h, parts, f', _, _, _, k, _⟩ | ⟨_, _, _, _, k, _⟩ <;> exact k
    clear hcut
    have OC := Lib.hid (OV.out.kp KC.out)
    obtain ⟨A', c', e', _, ha'⟩ := OC.out.any
    injection e' with e1 e3 e2
    subst e1 e2
    clear e3
    have HC := Lib.hid ha'
    clear ha'
    have L49 : Hid (∀ b ∈ bl, b.l.length ≤ 49152) := fun b hb => (GD.out.each b hb).most
    have UL := usedL_le bl L49.out
    go_wp2_with fail
    go_loop [18, 19] (fun u i => ∃ k : Nat, k ≤ bl.length ∧ i = .int .i64 k ∧ u = .int .i64 ((usedL (bl.take k) : Nat) : Int)) (fun _ i => bl.length - (intOf i).toNat)
    case atStart => exact ⟨0, by omega, rfl, rfl⟩
    case round =>
      obtain ⟨k, hk, rfl, rfl⟩ := hrel
      by_cases hlt : k < bl.length
      · obtain ⟨g, off, rfl, _, cc⟩ := HC.out.at_ hlt
        have lk : (k : Int) < (bl.length : Int) := by omega
        have NE := Lib.hid (needs_any wc bl[k].l (by have := L49.out bl[k] (List.getElem_mem hlt); omega))
        have UT := Lib.hid (usedL_take bl k hlt)
        have u1 := usedL_le (bl.take k) (fun b hb => L49.out b (List.mem_of_mem_take hb))
        have u2 := needL_le (L49.out bl[k] (List.getElem_mem hlt))
        rw [List.length_take] at u1
        unfold strV at NE cc
        generalize bl[k].l = lb at *
        generalize usedL (bl.take k) = us at *
        generalize needL lb.length = nd at *
        go_wp2_with fail
        refine NE.out.mono ?_
        rintro e w5 ⟨rfl, rfl⟩
        clear NE
        go_wp2_with fail
        go_round
        case rel => exact ⟨k + 1, by omega, by go_num, by rw [UT.out]; go_num⟩
        case measure => simp [intOf]; omega
      · obtain rfl : k = bl.length := by omega
        rw [List.take_of_length_le (Nat.le_refl _)]
        have U60 : usedL bl ≤ 6000 := by omega
        clear UL hlt hk
        obtain ⟨us, hus⟩ : ∃ us, us = usedL bl := ⟨_, rfl⟩
        have HU := Lib.hid hus
        rw [← hus] at U60 ⊢
        clear hus
        rcases CUT.out with ⟨c1, rfl, rfl, m, kk⟩ | ⟨c1, h, parts, f', rfl, rfl, m, kk, la⟩ | ⟨c1, rfl, rfl, m, kk, hs⟩
        · have i1 : (49152 : Int) < (l.length : Int) := by omega
          have US := used_any B wc p n f m
          rw [GD.out.used, ← HU.out] at US
          have USH := Lib.hid US
          have M5 := Lib.hid m
          clear m kk US CUT
          go_wp2_with fail
          refine USH.out.mono ?_
          rintro e w5 ⟨rfl, hb5⟩
          have B5 := Lib.hid hb5
          clear hb5 USH
          go_wp2_with fail
          go_ret2
          exact ⟨_, bl, f, rfl, OC.out.kp (Kp.under (B := B) B5.out), GD.out, M5.out.under B5.out, (KC.out.below hB).trans (B5.out.mono (Nat.le_trans hB KC.out.size)), by omega⟩
        · have i1 : ¬ (49152 : Int) < (l.length : Int) := by omega
          have NE := Lib.hid (fun w => needs_any w l (by omega))
          have nl := needL_le c1
          have GN := Lib.hid (GD.out.more la)
          have M5 := Lib.hid m
          have cn : cnt n f' = us + needL l.length := by rw [la.cnt_, GD.out.used, HU.out]
          have cl := cnt_le n f'
          have CN := Lib.hid cn
          have ZH : Hid (l = [] ∧ h = 0 ∨ 0 < l.length ∧ 0 < h) := by
            rcases la with ⟨e1, e2, _, _⟩ | la
            · exact .inl ⟨e1, e2⟩
            · exact .inr ⟨la.blob.one, la.blob.fine.pos⟩
          rw [cn] at cl
          unfold strV at NE
          have NDH := Lib.hid (rfl : needL l.length = needL l.length)
          generalize hnd : needL l.length = nd at *
          have HND := Lib.hid hnd
          have i2 : ¬ (n : Int) < (us : Int) + (nd : Int) := by omega
          have O6 : Hid (OwnH (wc.alloc (.cells #[.int .i64 (h : Int), .string (strB l)] 35)) B (.slice A bl.length c) bl) := OC.out.alloc _
          have A6 : Hid (HAt (wc.alloc (.cells #[.int .i64 (h : Int), .string (strB l)] 35)) (some ⟨wc.heap.size, 0, none⟩) [⟨h, parts, l⟩]) := h_one wc ⟨h, parts, l⟩ _ rfl
          have B6 : Hid (Below wc.heap.size wc (wc.alloc (.cells #[.int .i64 (h : Int), .string (strB l)] 35))) := (Below.refl _ _).alloc (Nat.le_refl _) _
          have S6 : Hid (B ≤ (wc.alloc (.cells #[.int .i64 (h : Int), .string (strB l)] 35)).heap.size) := Nat.le_trans (Nat.le_trans hB KC.out.size) B6.out.size
          have M6 := Lib.hid (m.under B6.out)
          clear m kk la CUT cn cl hnd NDH
          rcases ZH.out with ⟨rfl, rfl⟩ | ⟨z1, z2⟩
          · rw [strB_nil] at *
            go_wp2_with fail
            refine (NE.out _).mono ?_
            rintro e w4 ⟨rfl, rfl⟩
            go_wp2_with (at_builtin; refine wpList_append_h rfl (.tmp 95) (.tmp 99) rfl B _ _ rfl O6.out (some ⟨wc.heap.size, 0, none⟩) 1 1 [⟨0, parts, []⟩] rfl rfl A6.out (by simp; omega) S6.out ?_; intro v7 w7 q1 q2; obtain ⟨A7, c7, rfl, _, _⟩ := q1.any; have O7 := Lib.hid q1; have M7 := Lib.hid (M6.out.grownH_ O6.out q2); have B7 : Hid (Below B w w7) := (((KC.out.below hB).trans (B6.out.mono (Nat.le_trans hB KC.out.size))).grown q2 S6.out (fun x hx => (O6.out.lt x hx).1)); have US := used_any B w7 p n f' M7.out; rw [CN.out] at US; have USH := Lib.hid US; clear q1 q2 US)
            have PC : ((us + nd : Nat) : Int) = (us : Int) + (nd : Int) := by omega
            rw [PC] at USH
            clear PC
            refine USH.out.mono ?_
            rintro e w8 ⟨rfl, hb8⟩
            have F : Hid (OwnH w8 B (.slice A7 (bl ++ [(⟨0, parts, []⟩ : BL)]).length c7) (bl ++ [⟨0, parts, []⟩]) ∧ MemAt B w8 p n f' ∧ Below B w w8) := ⟨O7.out.kp (Kp.under (B := B) hb8), M7.out.under hb8, B7.out.trans (hb8.mono (Nat.le_trans hB B7.out.size))⟩
            clear hb8 USH
            go_wp2_with fail
            refine (NE.out _).mono ?_
            rintro e w9 ⟨rfl, rfl⟩
            go_wp2_with fail
            go_ret2
            have g1 := F.out.1
            rw [List.length_append] at g1
            exact ⟨_, _, f', rfl, g1, GN.out, F.out.2.1, F.out.2.2, by simp⟩
          · have ie := strB_some z1
            have zh : ¬ (h : Int) = 0 := by omega
            have zh2 : ((h : Int) == 0) = false := by simp; omega
            clear z1 z2
            go_wp2_with fail
            refine (NE.out _).mono ?_
            rintro e w4 ⟨rfl, rfl⟩
            go_wp2_with (at_builtin; refine wpList_append_h rfl (.tmp 95) (.tmp 99) rfl B _ _ rfl O6.out (some ⟨wc.heap.size, 0, none⟩) 1 1 [⟨h, parts, l⟩] rfl rfl A6.out (by simp; omega) S6.out ?_; intro v7 w7 q1 q2; obtain ⟨A7, c7, rfl, _, _⟩ := q1.any; have O7 := Lib.hid q1; have M7 := Lib.hid (M6.out.grownH_ O6.out q2); have B7 : Hid (Below B w w7) := (((KC.out.below hB).trans (B6.out.mono (Nat.le_trans hB KC.out.size))).grown q2 S6.out (fun x hx => (O6.out.lt x hx).1)); have US := used_any B w7 p n f' M7.out; rw [CN.out] at US; have USH := Lib.hid US; clear q1 q2 US)
            have PC : ((us + nd : Nat) : Int) = (us : Int) + (nd : Int) := by omega
            rw [PC] at USH
            clear PC
            refine USH.out.mono ?_
            rintro e w8 ⟨rfl, hb8⟩
            have F : Hid (OwnH w8 B (.slice A7 (bl ++ [(⟨h, parts, l⟩ : BL)]).length c7) (bl ++ [⟨h, parts, l⟩]) ∧ MemAt B w8 p n f' ∧ Below B w w8) := ⟨O7.out.kp (Kp.under (B := B) hb8), M7.out.under hb8, B7.out.trans (hb8.mono (Nat.le_trans hB B7.out.size))⟩
            clear hb8 USH
            go_wp2_with fail
            refine (NE.out _).mono ?_
            rintro e w9 ⟨rfl, rfl⟩
            go_wp2_with fail
            go_ret2
            have g1 := F.out.1
            rw [List.length_append] at g1
            exact ⟨_, _, f', rfl, g1, GN.out, F.out.2.1, F.out.2.2, by simp⟩
        · have i1 : ¬ (49152 : Int) < (l.length : Int) := by omega
          have NE := Lib.hid (needs_any wc l (by omega))
          have nl := needL_le c1
          have hs2 : n < us + needL l.length := by rw [HU.out, ← GD.out.used]; exact hs
          have US := used_any B wc p n f m
          rw [GD.out.used, ← HU.out] at US
          have USH := Lib.hid US
          have M5 := Lib.hid m
          unfold strV at NE
          generalize needL l.length = nd at *
          have i2 : (n : Int) < (us : Int) + (nd : Int) := by omega
          clear m kk US CUT hs hs2
          go_wp2_with fail
          refine NE.out.mono ?_
          rintro e w4 ⟨rfl, rfl⟩
          clear NE
          go_wp2_with fail
          refine USH.out.mono ?_
          rintro e w5 ⟨rfl, hb5⟩
          have B5 := Lib.hid hb5
          clear hb5 USH
          go_wp2_with fail
          go_ret2
          exact ⟨_, bl, f, rfl, OC.out.kp (Kp.under (B := B) B5.out), GD.out, M5.out.under B5.out, (KC.out.below hB).trans (B5.out.mono (Nat.le_trans hB KC.out.size)), by omega⟩
end Go.Proofs.Ytlofpbmceipkkaa
