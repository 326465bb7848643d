/-
  P3.1 to P3.4: whatever calls are made, in whatever order, and however often it is opened anew, each answer is the one that the chapter says: the law answers true for every input, and its arguments read behind the call as before. No condition beside the row's own.
-/
import Derived.Test.YtacpgahbfmpiiaaMPlay
import Derived.Test.YtacpgahbfmpiiaaMBase
import Derived.Deep.CutRange
import Derived.Deep.DeepCutAuto
namespace Go.Proofs.Ytacpgahbfmpiiaa.walPlays
open Go.ChangeShapes Go.WideShapes Go.ChangeAt Go.RowKit Wal

theorem own : ownKnob Try.prog.godebug = none := by kernel_rfl
theorem laidOut : laidOutB Try.prog = true := by kernel_rfl

/-- Ahead of step i. -/
structure Play (w wr : World) (at0 R rec : Nat) (b : Nat) (G : List Nat) (s : LS) (d : Nat) (F : List Nat) (m : Dsk.DM) (r : Nat) (vL : Value) (vs : List Value) (Bs : List (List (List Nat))) (T S : Nat) : Prop where
  lives : LLives w wr b G s d F m
  ms : MS s m at0 R rec Bs T S
  ref : RLog w wr r vL vs (R - 1) Bs T S
  apart : ∀ x ∈ r :: rowsFoot vL vs, x ∉ G ++ F
section
variable {w wr w' : World} {at0 R rec b d r T S : Nat} {G F G' F' H : List Nat} {s s' : LS} {m m' : Dsk.DM} {vL : Value} {vs : List Value} {Bs Bs' : List (List (List Nat))}
/-- The log was called. -/
theorem Play.logged (h : Play w wr at0 R rec b G s d F m r vL vs Bs T S) (t : LTurned wr b G d F w' s' m') : ∃ G' F', LLives w w' b G' s' d F' m' ∧ RLog w w' r vL vs (R - 1) Bs T S ∧ ∀ x ∈ r :: rowsFoot vL vs, x ∉ G' ++ F' := by
  obtain ⟨G', F', hL, hO, hG⟩ := h.lives.turned t
  refine ⟨G', F', hL, h.ref.only hO h.apart, fun x hx hm => ?_⟩
  rcases hG x hm with h1 | h1
  · exact h.apart x hx h1
  · have := (h.ref.lt x hx).2; omega
theorem Play.under (h : Play w wr at0 R rec b G s d F m r vL vs Bs T S) (k : Below wr.heap.size wr w') : Play w w' at0 R rec b G s d F m r vL vs Bs T S := ⟨h.lives.under k, h.ms, h.ref.under k, h.apart⟩
end

set_option maxRecDepth 100000 in
set_option maxHeartbeats 12800000 in
theorem walk (f : Nat) (hf : f < 256) (n : Nat) (hn : n < 256) (A : Option Addr) (N c : Nat) (l : List WOp) (w : World) (hl : WOps w A N l) (hN : N ≤ 3518437208884) :
    Calls Try.prog 3 #[.int .u8 (f : Int), .int .u8 (n : Int), .slice A N c] w fun e w' => e = .returned (.bool true) ∧ Below w.heap.size w w' := by
  have HL := Lib.hid hl
  have hNl := Lib.hid hl.1
  have RN := ringN_le n
  have RA := fun W => Lib.hid (ring_any W n hn)
  obtain ⟨R, hR⟩ : ∃ R, R = ringN n := ⟨_, rfl⟩
  rw [← hR] at RN
  simp only [← hR] at RA
  obtain ⟨a0, ha0⟩ : ∃ a0, a0 = f % 9 := ⟨_, rfl⟩
  have ha9 : a0 < 9 := by rw [ha0]; exact Nat.mod_lt _ (by omega)
  have e9 : ((f : Int)).tmod 9 = (a0 : Int) := by
    rw [Int.tmod_eq_emod_of_nonneg (by omega)]
    omega
  have hN9 : (N : Int) ≤ 3518437208884 := by omega
  clear hl hR ha0
  go_enter Try.func3, Try.ntmps3
  go_wp2_with fail
  refine (fixed_any _).mono ?_
  rintro e w1 ⟨rfl, hbel⟩
  have BF := Lib.hid hbel
  clear hbel
  have L1 := Lib.hid (HL.out.kept BF.out)
  have HV := Lib.hid (heavy_any w1 A N c l L1.out hN)
  go_wp2_with fail
  refine HV.out.mono ?_
  rintro e w' ⟨hb, rfl, hbw, rfl⟩
  cases hb with
  | true =>
    go_wp2_with fail
    refine (fixed_any _).mono ?_
    rintro e w2 ⟨rfl, hbel⟩
    have BG := Lib.hid (BF.out.trans (hbel.mono BF.out.size))
    clear hbel
    go_wp2_with fail
    go_ret
    exact ⟨rfl, BG.out⟩
  | false =>
    have HW : Hid (recs l ≤ 131072) := by
      have h1 := hbw rfl
      have h2 := recs_weighs l
      show _ ≤ _
      omega
    have WB : Hid (weighsAll l ≤ 1048576) := hbw rfl
    clear hbw HV L1
    go_wp2_with fail
    refine (RA _).out.mono ?_
    rintro e w' ⟨rfl, rfl⟩
    have hR9 : (R : Int) ≤ 31 := by omega
    have ha8 : (a0 : Int) ≤ 8 := by omega
    go_wp2_with fail
    obtain ⟨M, hM⟩ : ∃ M : Nat, M = a0 + R + 2 := ⟨_, rfl⟩
    have eM : ((a0 : Int) + (R : Int) + 2) = (M : Int) := by omega
    rw [eM]
    have cM : clampN (M : Int) = M := clamp_of (by omega) (by omega)
    refine (new_any _ _).mono ?_
    intro e w2 hm
    obtain ⟨d, F, rfl, hL⟩ := hm.lives
    rw [cM] at hL
    have L2 : Hid (Lives w w2 d F (Dsk.fresh M)) := ⟨hL.disk, BF.out.trans (hL.below.mono BF.out.size), fun x hx => Nat.le_trans BF.out.size (hL.new x hx)⟩
    have hlen : Hid ((Dsk.fresh M).dur.length = M) := by show _ = _; simp [Dsk.fresh]
    have HM := Lib.hid hM
    have hM9 : M ≤ 4096 := by omega
    clear hm hL BF cM e9 eM hM
    go_wp2_with fail
    refine (RA _).out.mono ?_
    rintro e w' ⟨rfl, rfl⟩
    have hcR : Hid (checkErr M (a0 : Int) (R : Int) = 0) := by
      show _ = _
      have := HM.out
      unfold checkErr
      rw [if_neg (by omega)]
    have MK := Lib.hid (make_any w2 d F _ a0 R L2.out.disk (by rw [hlen.out]; exact hcR.out) (by simp [Dsk.fresh]))
    obtain ⟨m1, em, im, wm, lm, fm, _⟩ := inv_make (m := Dsk.fresh M) (frm := a0) (n := R) (by rw [hlen.out]; omega) rfl RN.1 (by rw [hlen.out, HM.out]; omega) rfl
    rw [em] at MK
    have M1 : Hid (MS (openS a0 (R - 1) 0 1 0 []) m1 a0 R 0 [] 0 0) := ⟨im, fm, by rw [wm]; exact Nat.le_refl _, rfl, rfl, rfl, rfl, by rw [lm, hlen.out, HM.out], Nat.le_refl _, ⟨Nat.le_refl _, Nat.le_refl _⟩, by omega⟩
    clear em im wm lm fm
    go_wp2_with fail
    refine MK.out.mono ?_
    intro e w3 hm
    obtain ⟨b, G3, F3, rfl, hL, _, _⟩ := hm.ok rfl L2.out
    have L3 : Hid (LLives w w3 b G3 (openS a0 (R - 1) 0 1 0 []) d F3 m1) := hL
    clear hm hL MK L2 hlen
    go_wp2_with fail
    refine (RA _).out.mono ?_
    rintro e w' ⟨rfl, rfl⟩
    have eR : ((R : Int) - 1) = ((R - 1 : Nat) : Int) := by omega
    go_wp2_with fail
    obtain ⟨w4, hw4⟩ : ∃ w4, w4 = w3.alloc (.cells #[.int .i64 ((R - 1 : Nat) : Int), .slice none 0 0, .int .i64 0, .int .i64 0] 35) := ⟨_, rfl⟩
    obtain ⟨r, hr⟩ : ∃ r, r = w3.heap.size := ⟨_, rfl⟩
    have P4 : Hid (Play w w4 a0 R 0 b G3 (openS a0 (R - 1) 0 1 0 []) d F3 m1 r (.slice none 0 0) [] [] 0 0) := by
      have hb : Below w3.heap.size w3 w4 := by rw [hw4]; exact (Below.refl _ _).alloc (Nat.le_refl _) _
      refine ⟨L3.out.under hb, M1.out, ⟨by rw [hw4]; exact Held.new _ _ _ hr, RowsAt.nil _ _, by rw [hr]; exact L3.out.below.size, fun B hB => by cases hB⟩, fun x hx => ?_⟩
      have : x = r := by simpa [rowsFoot, Value.ownBlock] using hx
      rw [this]
      exact L3.out.far (by omega)
    rw [← hw4, ← hr]
    clear hw4 hr L3 M1
    go_loopw [9, 12] (fun lv iv wr => ∃ i b G s F m vL vs Bs T S, i ≤ N ∧ iv = .int .i64 (i : Nat) ∧ lv = .pointer (some ⟨b, 0, none⟩) ∧ Play w wr a0 R (recs (l.take i)) b G s d F m r vL vs Bs T S) (fun _ iv _ => N - (intOf iv).toNat)
    case atStart => exact ⟨0, b, G3, _, F3, m1, _, [], [], 0, 0, by omega, rfl, rfl, by simpa [recs] using P4.out⟩
    case round =>
      obtain ⟨i, b1, G, s, F6, m, vL, vs, Bs, T, S, hi, rfl, rfl, hp⟩ := hrel
      have PP := Lib.hid hp
      clear hp P4
      by_cases hlt : i < N
      · have hlt' : (i : Int) < (N : Int) := by omega
        obtain ⟨g, off, o, rfl, hg, ho, hgo, htk, c0, c1, c2⟩ := HL.out.at_ hlt
        have BW := PP.out.lives.below
        have x0 := (BW.cell (p := ⟨g, off + i * 3, none⟩) hg).trans c0
        have x1 := (BW.cell (p := ⟨g, off + i * 3 + 1, none⟩) hg).trans c1
        have x2 := (BW.cell (p := ⟨g, off + i * 3 + 2, none⟩) hg).trans c2
        have GO := Lib.hid hgo
        have TK : Hid (recs (l.take (i + 1)) = recs (l.take i) + o.batch.length ∧ recs (l.take i) + o.batch.length ≤ 131072 ∧ weighs o.batch ≤ 1048576) := by
          have e1 : recs (l.take (i + 1)) = recs (l.take i) + o.batch.length := by rw [htk, recs_snoc]
          have h2 := recs_take l (i + 1)
          have h3 := HW.out
          have h4 : weighsAll (l.take (i + 1)) = weighsAll (l.take i) + weighs o.batch := by rw [htk, weighsAll_snoc]
          have h5 := weighsAll_take l (i + 1)
          have h6 := WB.out
          exact ⟨e1, by omega, by omega⟩
        clear hgo htk c0 c1 c2 ho BW
        go_upto_region 13 with fail
        obtain ⟨q, hq⟩ : ∃ q, q = wr.heap.size := ⟨_, rfl⟩
        obtain ⟨wq, hwq⟩ : ∃ wq, wq = wr.alloc (.cells #[.int .u8 (o.kind : Int), .slice o.A o.n o.c, .int .i64 o.num] 38) := ⟨_, rfl⟩
        have hbq : Below wr.heap.size wr wq := by rw [hwq]; exact (Below.refl _ _).alloc (Nat.le_refl _) _
        have PQ := Lib.hid (PP.out.under hbq)
        have HQ : Hid (Held wq q 38 #[.int .u8 (o.kind : Int), .slice o.A o.n o.c, .int .i64 o.num]) := by rw [hwq]; exact Held.new _ _ _ hq
        have QF : Hid (q ∉ G ++ F6 ∧ q ∉ r :: rowsFoot vL vs) := ⟨PP.out.lives.far (by omega), fun hm => by have := (PP.out.ref.lt q hm).2; omega⟩
        rw [← hwq, ← hq]
        have z0 := HQ.out.cell 0
        have z1 := HQ.out.cell 1
        have z2 := HQ.out.cell 2
        clear hwq hq hbq PP x0 x1 x2
        obtain ⟨κ, hκ⟩ : ∃ κ, κ = o.kind % 4 := ⟨_, rfl⟩
        have hm1 : ((o.kind : Int)).tmod 4 = (κ : Int) := by
          rw [Int.tmod_eq_emod_of_nonneg (by omega)]
          omega
        have hκ4 : κ < 4 := by rw [hκ]; exact Nat.mod_lt _ (by omega)
        clear hκ
        have hk : κ = 0 ∨ κ = 1 ∨ κ = 2 ∨ κ = 3 := by omega
        rcases hk with rfl | rfl | rfl | rfl
        · obtain ⟨e1, e2, s', m', hA, hRf, hMS⟩ := PQ.out.ms.append (b := txts o.batch) (txts_bytes _) (by rw [txts_length]; exact TK.out.2.1)
          rw [txts_length] at hMS
          have SS := Lib.hid hMS
          have ERF := Lib.hid hRf
          have ST : Hid (∀ W, Below w.heap.size w W → Strs W o.A o.n o.batch) := fun W hW => GO.out.batch.below hW
          have AC := Lib.hid (append_any wq b1 d s G F6 m o.A o.n o.c o.batch PQ.out.lives.ld PQ.out.ms.inv.ok (ST.out _ PQ.out.lives.below) (by have := GO.out.n; omega) (fun h0 x hx hm => by
            have h1 := GO.out.lt h0 x hx
            have h2 := PQ.out.lives.new _ hm
            omega) (by have := PQ.out.ms.wait; have := PQ.out.ms.rec_; omega))
          rw [hA] at AC
          clear hMS hRf hA
          go_wp2_with fail
          refine AC.out.mono ?_
          rintro e w5 ⟨rfl, ht⟩
          obtain ⟨G5, F5, hL, hR, hAp⟩ := PQ.out.logged ht
          have hO : Only (G ++ F6) wq w5 := by obtain ⟨_, _, _, h2, _, _⟩ := ht; exact h2
          have L5 := Lib.hid hL
          have R5 := Lib.hid hR
          have A5 := Lib.hid hAp
          have Q5 := Lib.hid (HQ.out.only hO QF.out.1)
          clear ht hL hR hAp hO AC z0 z1 z2
          have z1 := Q5.out.cell 1
          have RC := Lib.hid (refAppend_any w5 r vL vs (R - 1) T S Bs o.A o.n o.c o.batch R5.out (by omega) (by have := PQ.out.ms.ts; omega) (by have := PQ.out.ms.count; have := PQ.out.ms.rec_; omega) (ST.out _ L5.out.below) GO.out.n L5.out.below.size)
          go_wp2_with fail
          refine RC.out.mono ?_
          rintro e w6 ⟨rfl, vL', vs', hR6, hO6, hfoot⟩
          rw [ERF.out] at hR6 ⊢
          have RR := Lib.hid hR6
          have hsub : ∀ x ∈ r :: vL.ownBlock.toList, x ∈ r :: rowsFoot vL vs := fun x hx => by
            rcases List.mem_cons.1 hx with rfl | hx
            · simp
            · exact List.mem_cons_of_mem _ (mem_rowsFoot.2 (.inl (by simpa using hx)))
          have LV := Lib.hid (L5.out.own hO6 (fun x hx => ⟨(R5.out.lt x (hsub x hx)).1, A5.out x (hsub x hx)⟩))
          have AP : Hid (∀ x ∈ r :: rowsFoot vL' vs', x ∉ G5 ++ F5) := fun x hx => by
            rcases List.mem_cons.1 hx with rfl | hx
            · exact A5.out _ (by simp)
            · rcases hfoot x hx with h1 | h1
              · exact A5.out x (List.mem_cons_of_mem _ h1)
              · exact L5.out.far h1
          have Q6 := Lib.hid (Q5.out.only hO6 (fun hm => QF.out.2 (hsub q hm)))
          clear z1 hR6 hO6 hfoot hsub RC L5 R5 A5 Q5
          have z1 := Q6.out.cell 1
          obtain ⟨nd, hnd⟩ : ∃ nd, nd = need (txts o.batch) := ⟨_, rfl⟩
          have hbl : bodyLen (txts o.batch) ≤ 4611686018427387904 := by
            have h1 := bodyLen_weighs o.batch
            have h2 := TK.out.2.2
            omega
          have N1 : ∀ k, Hid (Calls Try.prog 18 #[.slice o.A o.n o.c] (w6.drewN k) fun e w' => e = .returned (.int .i64 (nd : Int)) ∧ w' = w6.drewN k) := fun k => by
            rw [hnd]
            exact Lib.hid ((need_any (w6.drewN k) o.A o.n o.c o.batch (by have := GO.out.n; omega) (ST.out _ (LV.out.drewN k).below) hbl).mono fun _ _ ⟨h1, h2⟩ => ⟨h1, h2.symm⟩)
          have N2 : ∀ k, Hid (Calls Try.prog 19 #[.slice o.A o.n o.c] (w6.drewN k) fun e w' => e = .returned (.int .i64 (nd : Int)) ∧ w' = w6.drewN k) := fun k => by
            rw [hnd]
            exact Lib.hid ((refNeed_any (w6.drewN k) o.A o.n o.c o.batch (by have := GO.out.n; omega) (ST.out _ (LV.out.drewN k).below) hbl).mono fun _ _ ⟨h1, h2⟩ => ⟨h1, h2.symm⟩)
          clear hnd hbl
          go_wp2_with fail
          go_quiet (first
            | (go_at_call 18; exact Calls.quiet_of_same (N1 _).out)
            | (go_at_call 19; exact Calls.quiet_of_same (N2 _).out))
          have LV := Lib.hid (LV.out.drewN nq)
          have RR := Lib.hid (RR.out.under (below_drewN _ nq))
          clear N1 N2 z1 Q6
          generalize w6.drewN nq = w7 at *
          obtain ⟨AL, cL, hvL⟩ := own_slice RR.out.rows.row
          subst hvL
          have y1 := RR.out.held.cell 1
          have y2 := RR.out.held.cell 2
          have y3 := RR.out.held.cell 3
          obtain ⟨X, hX⟩ : ∃ X : Int, X = (s').room := ⟨_, rfl⟩
          have hX2 : ((R - 1 : Nat) : Int) - ((((if e2 = 0 then Bs ++ [txts o.batch] else Bs).drop (T)).map need).sum : Nat) = X := by rw [hX]; exact SS.out.room.symm
          have hbd : ((T : Nat) : Int) ≤ 131072 ∧ ((S : Nat) : Int) ≤ 131072 ∧ (((if e2 = 0 then Bs ++ [txts o.batch] else Bs).length : Nat) : Int) ≤ 131072 := by
            have h1 := SS.out.ts
            have h2 := SS.out.count
            have h3 := SS.out.rec_
            omega
          obtain ⟨hb1, hb2, hb3⟩ := hbd
          have K1 : ∀ k, Hid (Calls Try.prog 25 #[.pointer (some ⟨b1, 0, none⟩)] (w7.drewN k) fun e w' => e = .returned (.int .i64 X) ∧ ∃ n, w' = (w7.drewN k).drewN n) := fun k => by
            obtain ⟨vn, hlog, _⟩ := (LV.out.drewN k).ld.log
            rw [hX]
            exact Lib.hid (room_any (w7.drewN k) b1 d vn _ hlog (by have := SS.out.inv.ok.needs; have := SS.out.inv.ok.ring; omega) (by have := SS.out.inv.ok.count; omega) (by have := SS.out.inv.ok.ring; omega))
          have K2 : ∀ k, Hid (Calls Try.prog 26 #[.pointer (some ⟨r, 0, none⟩)] (w7.drewN k) fun e w' => e = .returned (.int .i64 X) ∧ w' = w7.drewN k) := fun k => by
            have h9 := refRoom_any (w7.drewN k) r _ _ (R - 1) (T) (S) (if e2 = 0 then Bs ++ [txts o.batch] else Bs) (RR.out.under (below_drewN _ k)) (by omega) (by have := SS.out.ts; omega) (by omega)
            rw [hX2] at h9
            exact Lib.hid (h9.mono fun _ _ ⟨h1, h2⟩ => ⟨h1, h2.symm⟩)
          have K3 : ∀ k, Hid (Calls Try.prog 27 #[.pointer (some ⟨b1, 0, none⟩)] (w7.drewN k) fun e w' => e = .returned (.int .i64 (((T : Nat) : Int) + 1)) ∧ w' = w7.drewN k) := fun k => by
            obtain ⟨vn, hlog, _⟩ := (LV.out.drewN k).ld.log
            have h9 := first_any (w7.drewN k) b1 d vn _ hlog
            rw [SS.out.first] at h9
            exact Lib.hid (h9.mono fun _ _ ⟨h1, h2⟩ => ⟨h1.trans (by congr 2), h2.symm⟩)
          have K4 : ∀ k, Hid (Calls Try.prog 28 #[.pointer (some ⟨b1, 0, none⟩)] (w7.drewN k) fun e w' => e = .returned (.int .i64 (((if e2 = 0 then Bs ++ [txts o.batch] else Bs).length : Nat) : Int)) ∧ ∃ n, w' = (w7.drewN k).drewN n) := fun k => by
            obtain ⟨vn, hlog, _⟩ := (LV.out.drewN k).ld.log
            have h9 := last_any (w7.drewN k) b1 d vn _ hlog (by rw [SS.out.first]; omega) (by have := SS.out.inv.ok.count; omega)
            rw [SS.out.last] at h9
            exact Lib.hid h9
          have K5 : ∀ k, Hid (Calls Try.prog 29 #[.pointer (some ⟨b1, 0, none⟩)] (w7.drewN k) fun e w' => e = .returned (.int .i64 ((S : Nat) : Int)) ∧ w' = w7.drewN k) := fun k => by
            obtain ⟨vn, hlog, _⟩ := (LV.out.drewN k).ld.log
            have h9 := synced_any (w7.drewN k) b1 d vn _ hlog
            rw [SS.out.synced] at h9
            exact Lib.hid (h9.mono fun _ _ ⟨h1, h2⟩ => ⟨h1, h2.symm⟩)
          have FIN : Hid (∀ k, Play w (w7.drewN k) a0 R (recs (l.take i) + o.batch.length) b1 G5 (s') d F5 (m') r _ _ (if e2 = 0 then Bs ++ [txts o.batch] else Bs) (T) (S)) := fun k => ⟨LV.out.drewN k, SS.out, RR.out.under (below_drewN _ k), AP.out⟩
          clear hX hX2 LV RR AP SS
          go_wp2_with fail
          go_quiet (first
            | (go_at_call 25; exact Calls.quiet_of (K1 _).out)
            | (go_at_call 26; exact Calls.quiet_of_same (K2 _).out)
            | (go_at_call 27; exact Calls.quiet_of_same (K3 _).out)
            | (go_at_call 28; exact Calls.quiet_of (K4 _).out)
            | (go_at_call 29; exact Calls.quiet_of_same (K5 _).out))
          go_wp2_with fail
          go_roundw
          case rel => exact ⟨i + 1, b1, G5, _, F5, _, _, _, _, _, _, by omega, by go_num, rfl, by rw [TK.out.1]; exact FIN.out _⟩
          case measure => simp [intOf]; omega
        · obtain ⟨s', m', hA, hMS⟩ := PQ.out.ms.more (o.batch.length) TK.out.2.1 |>.sync
          have SS := Lib.hid hMS
          obtain ⟨AL, cL, hvL⟩ := own_slice PQ.out.ref.rows.row
          subst hvL
          have y1 := PQ.out.ref.held.cell 1
          have y3 := PQ.out.ref.held.cell 3
          have x3 := PQ.out.ref.held.frozen 3
          have hL9 : ((Bs.length : Nat) : Int) ≤ 131072 := by have := PQ.out.ms.count; have := PQ.out.ms.rec_; omega
          go_upto_region 21 with fail
          have ho3 : Only [r] wq (wq.setCell ⟨r, 3, none⟩ (.int .i64 (Bs.length : Int))) := (Only.refl _ wq).setCell (.inl (by simp)) _
          have L4 := Lib.hid (PQ.out.lives.own ho3 (fun x hx => by
            obtain rfl : x = r := by simpa using hx
            exact ⟨PQ.out.ref.new, PQ.out.apart _ (by simp)⟩))
          have hr4 : RLog w (wq.setCell ⟨r, 3, none⟩ (.int .i64 (Bs.length : Int))) r (.slice AL Bs.length cL) vs (R - 1) Bs T Bs.length := by simpa using PQ.out.ref.stored 3 Bs.length (.inr rfl)
          have R4 := Lib.hid hr4
          clear hr4
          generalize wq.setCell ⟨r, 3, none⟩ (.int .i64 (Bs.length : Int)) = w4 at *
          have SY := Lib.hid (sync_any w4 b1 d s G F6 m L4.out.ld PQ.out.ms.inv.ok (by have := PQ.out.ms.wait; have := PQ.out.ms.rec_; omega))
          rw [hA] at SY
          clear hMS hA y1 y3 x3
          go_wp2_with fail
          refine SY.out.mono ?_
          rintro e w5 ⟨rfl, ht⟩
          obtain ⟨G5, F5, hL, hO, hGr⟩ := L4.out.turned ht
          have LV := Lib.hid hL
          have RR := Lib.hid (R4.out.only hO PQ.out.apart)
          have AP : Hid (∀ x ∈ r :: rowsFoot (.slice AL Bs.length cL) vs, x ∉ G5 ++ F5) := fun x hx hm => by
            rcases hGr x hm with h1 | h1
            · exact PQ.out.apart x hx h1
            · have := (R4.out.lt x hx).2; omega
          clear ht hL hO hGr SY L4 R4 z0 z1 z2 hL9
          go_wp2_with fail
          have y1 := RR.out.held.cell 1
          have y2 := RR.out.held.cell 2
          have y3 := RR.out.held.cell 3
          obtain ⟨X, hX⟩ : ∃ X : Int, X = (s').room := ⟨_, rfl⟩
          have hX2 : ((R - 1 : Nat) : Int) - ((((Bs).drop (T)).map need).sum : Nat) = X := by rw [hX]; exact SS.out.room.symm
          have hbd : ((T : Nat) : Int) ≤ 131072 ∧ ((Bs.length : Nat) : Int) ≤ 131072 ∧ (((Bs).length : Nat) : Int) ≤ 131072 := by
            have h1 := SS.out.ts
            have h2 := SS.out.count
            have h3 := SS.out.rec_
            omega
          obtain ⟨hb1, hb2, hb3⟩ := hbd
          have K1 : ∀ k, Hid (Calls Try.prog 25 #[.pointer (some ⟨b1, 0, none⟩)] (w5.drewN k) fun e w' => e = .returned (.int .i64 X) ∧ ∃ n, w' = (w5.drewN k).drewN n) := fun k => by
            obtain ⟨vn, hlog, _⟩ := (LV.out.drewN k).ld.log
            rw [hX]
            exact Lib.hid (room_any (w5.drewN k) b1 d vn _ hlog (by have := SS.out.inv.ok.needs; have := SS.out.inv.ok.ring; omega) (by have := SS.out.inv.ok.count; omega) (by have := SS.out.inv.ok.ring; omega))
          have K2 : ∀ k, Hid (Calls Try.prog 26 #[.pointer (some ⟨r, 0, none⟩)] (w5.drewN k) fun e w' => e = .returned (.int .i64 X) ∧ w' = w5.drewN k) := fun k => by
            have h9 := refRoom_any (w5.drewN k) r _ _ (R - 1) (T) (Bs.length) (Bs) (RR.out.under (below_drewN _ k)) (by omega) (by have := SS.out.ts; omega) (by omega)
            rw [hX2] at h9
            exact Lib.hid (h9.mono fun _ _ ⟨h1, h2⟩ => ⟨h1, h2.symm⟩)
          have K3 : ∀ k, Hid (Calls Try.prog 27 #[.pointer (some ⟨b1, 0, none⟩)] (w5.drewN k) fun e w' => e = .returned (.int .i64 (((T : Nat) : Int) + 1)) ∧ w' = w5.drewN k) := fun k => by
            obtain ⟨vn, hlog, _⟩ := (LV.out.drewN k).ld.log
            have h9 := first_any (w5.drewN k) b1 d vn _ hlog
            rw [SS.out.first] at h9
            exact Lib.hid (h9.mono fun _ _ ⟨h1, h2⟩ => ⟨h1.trans (by congr 2), h2.symm⟩)
          have K4 : ∀ k, Hid (Calls Try.prog 28 #[.pointer (some ⟨b1, 0, none⟩)] (w5.drewN k) fun e w' => e = .returned (.int .i64 (((Bs).length : Nat) : Int)) ∧ ∃ n, w' = (w5.drewN k).drewN n) := fun k => by
            obtain ⟨vn, hlog, _⟩ := (LV.out.drewN k).ld.log
            have h9 := last_any (w5.drewN k) b1 d vn _ hlog (by rw [SS.out.first]; omega) (by have := SS.out.inv.ok.count; omega)
            rw [SS.out.last] at h9
            exact Lib.hid h9
          have K5 : ∀ k, Hid (Calls Try.prog 29 #[.pointer (some ⟨b1, 0, none⟩)] (w5.drewN k) fun e w' => e = .returned (.int .i64 ((Bs.length : Nat) : Int)) ∧ w' = w5.drewN k) := fun k => by
            obtain ⟨vn, hlog, _⟩ := (LV.out.drewN k).ld.log
            have h9 := synced_any (w5.drewN k) b1 d vn _ hlog
            rw [SS.out.synced] at h9
            exact Lib.hid (h9.mono fun _ _ ⟨h1, h2⟩ => ⟨h1, h2.symm⟩)
          have FIN : Hid (∀ k, Play w (w5.drewN k) a0 R (recs (l.take i) + o.batch.length) b1 G5 (s') d F5 (m') r _ _ (Bs) (T) (Bs.length)) := fun k => ⟨LV.out.drewN k, SS.out, RR.out.under (below_drewN _ k), AP.out⟩
          clear hX hX2 LV RR AP SS
          go_wp2_with fail
          go_quiet (first
            | (go_at_call 25; exact Calls.quiet_of (K1 _).out)
            | (go_at_call 26; exact Calls.quiet_of_same (K2 _).out)
            | (go_at_call 27; exact Calls.quiet_of_same (K3 _).out)
            | (go_at_call 28; exact Calls.quiet_of (K4 _).out)
            | (go_at_call 29; exact Calls.quiet_of_same (K5 _).out))
          go_wp2_with fail
          go_roundw
          case rel => exact ⟨i + 1, b1, G5, _, F5, _, _, _, _, _, _, by omega, by go_num, rfl, by rw [TK.out.1]; exact FIN.out _⟩
          case measure => simp [intOf]; omega
        · obtain ⟨s', m', hA, hMS⟩ := (PQ.out.ms.more (o.batch.length) TK.out.2.1).trim o.num
          have SS := Lib.hid hMS
          obtain ⟨zz, hzz⟩ : ∃ zz : Int, zz = if o.num < 0 ∨ (S : Int) < o.num then 1 else 0 := ⟨_, rfl⟩
          have C1 := Lib.hid (trim_any wq.drew b1 d s G F6 m o.num PQ.out.lives.ld.drew PQ.out.ms.inv.ok (by have h1 := PQ.out.ms.last; have h2 := PQ.out.ms.ts; have h3 := PQ.out.ms.synced; rw [h1, h3]; omega) (by have := PQ.out.ms.wait; have := PQ.out.ms.rec_; omega))
          rw [hA, ← hzz] at C1
          obtain ⟨T', hT'⟩ : ∃ T', T' = if o.num < 0 ∨ (S : Int) < o.num then T else max T o.num.toNat := ⟨_, rfl⟩
          rw [← hT'] at SS
          have RC : ∀ W, RLog w W r vL vs (R - 1) Bs T S → Hid (Calls Try.prog 22 #[.pointer (some ⟨r, 0, none⟩), .int .i64 o.num] W fun e w' => e = .returned (.int .i64 zz) ∧ RLog w w' r vL vs (R - 1) Bs T' S ∧ Only [r] W w') := fun W hW => by
            rw [hzz, hT']
            exact Lib.hid (refTrim_any W r vL vs (R - 1) T S Bs o.num hW)
          clear hMS hA hzz hT'
          go_upto_region 24 with fail
          refine wp_region_noPanic ?_
          refine wp_region_held_drew (S := fun w' => w'.cell? ⟨q, 2, none⟩ = some (.int .i64 o.num)) (by kernel_rfl) z2 (fun hHeld => ?_)
          refine take_ (i := 0) (v := ?_) 117 rfl rfl (by kernel_rfl) (by kernel_rfl) (by kernel_rfl) (fun _ _ _ h => h) (Or.inl ⟨by rfl, ?_⟩) (by assumption) ?_
          rotate_left
          · (intro wS hSw; (try dsimp only at hSw); go_simp; try with_reducible rfl)
          simp only [Act.put, List.setIfInBounds_toArray, List.set_cons_zero, List.set_cons_succ]
          refine take_ (i := 1) (v := ?_) 118 rfl rfl (by kernel_rfl) (by kernel_rfl) (by kernel_rfl) (fun _ _ _ h => h) (Or.inl ⟨by rfl, ?_⟩) (by assumption) ?_
          rotate_left
          · (intro wS hSw; (try dsimp only at hSw); go_simp; try with_reducible rfl)
          simp only [Act.put, List.setIfInBounds_toArray, List.set_cons_zero, List.set_cons_succ]
          refine take_ (i := 2) (v := ?_) 119 rfl rfl (by kernel_rfl) (by kernel_rfl) (by kernel_rfl) (fun _ _ _ h => h) (Or.inl ⟨by rfl, ?_⟩) (by assumption) ?_
          rotate_left
          · (intro wS hSw; (try dsimp only at hSw); go_simp; try with_reducible rfl)
          simp only [Act.put, List.setIfInBounds_toArray, List.set_cons_zero, List.set_cons_succ]
          refine take_ (i := 4) (v := ?_) 121 rfl rfl (by kernel_rfl) (by kernel_rfl) (by kernel_rfl) (fun _ _ _ h => h) (Or.inl ⟨by rfl, ?_⟩) (by assumption) ?_
          rotate_left
          · (intro wS hSw; (try dsimp only at hSw); go_simp; try with_reducible rfl)
          simp only [Act.put, List.setIfInBounds_toArray, List.set_cons_zero, List.set_cons_succ]
          refine take_ (i := 5) (v := ?_) 122 rfl rfl (by kernel_rfl) (by kernel_rfl) (by kernel_rfl) (fun _ _ _ h => h) (Or.inl ⟨by rfl, ?_⟩) (by assumption) ?_
          rotate_left
          · (intro wS hSw; (try dsimp only at hSw); go_simp; try with_reducible rfl)
          simp only [Act.put, List.setIfInBounds_toArray, List.set_cons_zero, List.set_cons_succ]
          refine take_ (i := 6) (v := ?_) 123 rfl rfl (by kernel_rfl) (by kernel_rfl) (by kernel_rfl) (fun _ _ _ h => h) (Or.inl ⟨by rfl, ?_⟩) (by assumption) ?_
          rotate_left
          · (intro wS hSw; (try dsimp only at hSw); go_simp; try with_reducible rfl)
          simp only [Act.put, List.setIfInBounds_toArray, List.set_cons_zero, List.set_cons_succ]
          refine one_ (i := 3) _ (by kernel_rfl) rfl (fun K hK => ?_)
          go_simp
          refine C1.out.mono ?_
          rintro e w5 ⟨rfl, ht⟩
          have PD : Play w wq.drew a0 R (recs (l.take i)) b1 G s d F6 m r vL vs Bs T S := PQ.out.under (Below.refl _ _).drew
          obtain ⟨G5, F5, hL, hR, hAp⟩ := PD.logged ht
          have hO : Only (G ++ F6) wq.drew w5 := by obtain ⟨_, _, _, h2, _, _⟩ := ht; exact h2
          have L5 := Lib.hid hL
          have R5 := Lib.hid hR
          have A5 := Lib.hid hAp
          have Q5 : Hid (Held w5 q 38 #[.int .u8 (o.kind : Int), .slice o.A o.n o.c, .int .i64 o.num]) := HQ.out.drew.only hO QF.out.1
          have S5 := Q5.out.cell 2
          clear ht hL hR hAp hO C1 z0 z1 z2 PD
          go_wp2_with fail
          refine hK.out _ _ S5 (fun hHeld => ?_)
          clear hK K
          refine one_ (i := 7) _ (by kernel_rfl) rfl (fun K hK => ?_)
          go_simp
          refine (RC w5 R5.out).out.mono ?_
          rintro e w6 ⟨rfl, hR6, hO6⟩
          have RR := Lib.hid hR6
          have LV := Lib.hid (L5.out.own hO6 (fun x hx => by
            obtain rfl : x = r := by simpa using hx
            exact ⟨R5.out.new, A5.out _ (by simp)⟩))
          have AP := A5
          have S6 : w6.cell? ⟨q, 2, none⟩ = some (.int .i64 o.num) := (Q5.out.only hO6 (fun hm => QF.out.2 (by
            have e : q = r := by simpa using hm
            rw [e]
            simp))).cell 2
          clear hR6 hO6 RC L5 R5 Q5
          go_wp2_with fail
          refine hK.out _ _ S6 (fun hHeld => ?_)
          clear hK K
          refine take_ (i := 8) (v := ?_) 125 rfl rfl (by kernel_rfl) (by kernel_rfl) (by kernel_rfl) (fun _ _ _ h => h) (Or.inl ⟨by rfl, ?_⟩) (by assumption) ?_
          rotate_left
          · (intro wS hSw; (try dsimp only at hSw); go_simp; try with_reducible rfl)
          simp only [Act.put, List.setIfInBounds_toArray, List.set_cons_zero, List.set_cons_succ]
          refine wpAnyH_done (by kernel_rfl) ?_ _
          refine NoPanic.normal ?_
          clear hHeld S5 S6
          go_wp2_with fail
          obtain ⟨AL, cL, hvL⟩ := own_slice RR.out.rows.row
          subst hvL
          have y1 := RR.out.held.cell 1
          have y2 := RR.out.held.cell 2
          have y3 := RR.out.held.cell 3
          obtain ⟨X, hX⟩ : ∃ X : Int, X = (s').room := ⟨_, rfl⟩
          have hX2 : ((R - 1 : Nat) : Int) - ((((Bs).drop (T')).map need).sum : Nat) = X := by rw [hX]; exact SS.out.room.symm
          have hbd : ((T' : Nat) : Int) ≤ 131072 ∧ ((S : Nat) : Int) ≤ 131072 ∧ (((Bs).length : Nat) : Int) ≤ 131072 := by
            have h1 := SS.out.ts
            have h2 := SS.out.count
            have h3 := SS.out.rec_
            omega
          obtain ⟨hb1, hb2, hb3⟩ := hbd
          have K1 : ∀ k, Hid (Calls Try.prog 25 #[.pointer (some ⟨b1, 0, none⟩)] (w6.drewN k) fun e w' => e = .returned (.int .i64 X) ∧ ∃ n, w' = (w6.drewN k).drewN n) := fun k => by
            obtain ⟨vn, hlog, _⟩ := (LV.out.drewN k).ld.log
            rw [hX]
            exact Lib.hid (room_any (w6.drewN k) b1 d vn _ hlog (by have := SS.out.inv.ok.needs; have := SS.out.inv.ok.ring; omega) (by have := SS.out.inv.ok.count; omega) (by have := SS.out.inv.ok.ring; omega))
          have K2 : ∀ k, Hid (Calls Try.prog 26 #[.pointer (some ⟨r, 0, none⟩)] (w6.drewN k) fun e w' => e = .returned (.int .i64 X) ∧ w' = w6.drewN k) := fun k => by
            have h9 := refRoom_any (w6.drewN k) r _ _ (R - 1) (T') (S) (Bs) (RR.out.under (below_drewN _ k)) (by omega) (by have := SS.out.ts; omega) (by omega)
            rw [hX2] at h9
            exact Lib.hid (h9.mono fun _ _ ⟨h1, h2⟩ => ⟨h1, h2.symm⟩)
          have K3 : ∀ k, Hid (Calls Try.prog 27 #[.pointer (some ⟨b1, 0, none⟩)] (w6.drewN k) fun e w' => e = .returned (.int .i64 (((T' : Nat) : Int) + 1)) ∧ w' = w6.drewN k) := fun k => by
            obtain ⟨vn, hlog, _⟩ := (LV.out.drewN k).ld.log
            have h9 := first_any (w6.drewN k) b1 d vn _ hlog
            rw [SS.out.first] at h9
            exact Lib.hid (h9.mono fun _ _ ⟨h1, h2⟩ => ⟨h1.trans (by congr 2), h2.symm⟩)
          have K4 : ∀ k, Hid (Calls Try.prog 28 #[.pointer (some ⟨b1, 0, none⟩)] (w6.drewN k) fun e w' => e = .returned (.int .i64 (((Bs).length : Nat) : Int)) ∧ ∃ n, w' = (w6.drewN k).drewN n) := fun k => by
            obtain ⟨vn, hlog, _⟩ := (LV.out.drewN k).ld.log
            have h9 := last_any (w6.drewN k) b1 d vn _ hlog (by rw [SS.out.first]; omega) (by have := SS.out.inv.ok.count; omega)
            rw [SS.out.last] at h9
            exact Lib.hid h9
          have K5 : ∀ k, Hid (Calls Try.prog 29 #[.pointer (some ⟨b1, 0, none⟩)] (w6.drewN k) fun e w' => e = .returned (.int .i64 ((S : Nat) : Int)) ∧ w' = w6.drewN k) := fun k => by
            obtain ⟨vn, hlog, _⟩ := (LV.out.drewN k).ld.log
            have h9 := synced_any (w6.drewN k) b1 d vn _ hlog
            rw [SS.out.synced] at h9
            exact Lib.hid (h9.mono fun _ _ ⟨h1, h2⟩ => ⟨h1, h2.symm⟩)
          have FIN : Hid (∀ k, Play w (w6.drewN k) a0 R (recs (l.take i) + o.batch.length) b1 G5 (s') d F5 (m') r _ _ (Bs) (T') (S)) := fun k => ⟨LV.out.drewN k, SS.out, RR.out.under (below_drewN _ k), AP.out⟩
          clear hX hX2 LV RR AP SS
          go_wp2_with fail
          go_quiet (first
            | (go_at_call 25; exact Calls.quiet_of (K1 _).out)
            | (go_at_call 26; exact Calls.quiet_of_same (K2 _).out)
            | (go_at_call 27; exact Calls.quiet_of_same (K3 _).out)
            | (go_at_call 28; exact Calls.quiet_of (K4 _).out)
            | (go_at_call 29; exact Calls.quiet_of_same (K5 _).out))
          go_wp2_with fail
          go_roundw
          case rel => exact ⟨i + 1, b1, G5, _, F5, _, _, _, _, _, _, by omega, by go_num, rfl, by rw [TK.out.1]; exact FIN.out _⟩
          case measure => simp [intOf]; omega
        · obtain ⟨hFO, hMS⟩ := (PQ.out.ms.more (o.batch.length) TK.out.2.1).reopen (by rw [PQ.out.ms.size]; omega) RN.1
          have SS := Lib.hid hMS
          have FO := Lib.hid hFO
          have TS := Lib.hid PQ.out.ms.ts
          have hTS : ((T : Nat) : Int) ≤ 131072 ∧ ((S : Nat) : Int) ≤ 131072 := by have h1 := PQ.out.ms.ts; have h2 := PQ.out.ms.count; have h3 := PQ.out.ms.rec_; omega
          obtain ⟨ht1, ht2⟩ := hTS
          obtain ⟨B', hB'⟩ : ∃ B', B' = (Bs.take S).drop T := ⟨_, rfl⟩
          have EB := Lib.hid hB'
          rw [← hB'] at SS FO
          have OP := Lib.hid (open_any wq d F6 m a0 R s.start (T + 1) S B' PQ.out.lives.ld.disk (by rw [PQ.out.ms.size, ← HM.out]; exact hcR.out) PQ.out.ms.inv.alive FO.out (by omega))
          clear hFO hMS hB'
          go_wp2_with fail
          refine (RA _).out.mono ?_
          rintro e w' ⟨rfl, rfl⟩
          go_wp2_with fail
          refine OP.out.mono ?_
          intro e w5 ho
          obtain ⟨b5, v5, vs5, G5, F5, rfl, hL, hO, hGr, hrows, _⟩ := ho.own PQ.out.lives.lives
          have hin : ∀ x ∈ r :: rowsFoot vL vs, x ∉ F6 := fun x hx hm => PQ.out.apart x hx (List.mem_append.2 (.inr hm))
          have R5 := Lib.hid (PQ.out.ref.only hO hin)
          have AP : Hid (∀ x ∈ r :: rowsFoot vL vs, x ∉ G5 ++ F5) := fun x hx hm => by
            rcases hGr x hm with h1 | h1
            · exact hin x hx h1
            · have := (PQ.out.ref.lt x hx).2; omega
          have L5 := Lib.hid hL
          have hgd : ∀ B ∈ Bs, ((∀ r ∈ B, r.length ≤ 4611686018427387904) ∧ ∀ r ∈ B, ∀ x ∈ r, x < 256) ∧ B.length ≤ 1024 := fun B hB => by
            have hg := R5.out.good B hB
            have hg1 := hg.1
            unfold Wal.good at hg1
            simp only [Bool.and_eq_true, decide_eq_true_eq, List.all_eq_true] at hg1
            exact ⟨⟨fun r hr => by have := hg1.1.1 r hr; omega, hg.2⟩, hg1.2⟩
          have hsub : ∀ B ∈ B', B ∈ Bs := fun B hB => by
            rw [EB.out] at hB
            exact List.mem_of_mem_take (List.mem_of_mem_drop hB)
          have TG := Lib.hid (hrows.texts (fun B hB => (hgd B (hsub B hB)).1))
          have TL := Lib.hid (R5.out.rows.texts (fun B hB => (hgd B hB).1))
          have hlB : B'.length = S - T := by rw [EB.out, List.length_drop, List.length_take]; have := TS.out; omega
          have TD : ∀ k, Hid (Calls Try.prog 24 #[.pointer (some ⟨r, 0, none⟩), v5, .int .i64 ((T : Int) + 1), .int .i64 (S : Int)] (w5.drewN k) fun e w' => e = .returned (.bool true) ∧ ∃ n, w' = (w5.drewN k).drewN n) := fun k => by
            have h9 := told_any (w5.drewN k) r v5 vL (B'.map toStrs) (Bs.map toStrs) (T + 1) S ((R5.out.under (below_drewN _ k)).held.cell 1) (TG.out.drewN k) (TL.out.drewN k) (by rw [List.length_map, hlB]; have := TS.out; omega) (by omega) (by rw [List.length_map]; exact TS.out.2) (by rw [List.length_map]; have h1 := PQ.out.ms.count; have h2 := PQ.out.ms.rec_; omega)
              (fun j t ht => by
                rw [EB.out, List.getElem?_map, List.getElem?_drop] at ht
                rw [List.getElem?_map, Nat.add_sub_cancel]
                obtain ⟨B, hB, rfl⟩ := Option.map_eq_some_iff.1 ht
                rw [List.getElem?_take] at hB
                split at hB
                · rw [hB]; rfl
                · cases hB)
              (fun t ht => by
                obtain ⟨B, hB, rfl⟩ := List.mem_map.1 ht
                have := (hgd B hB).2
                unfold toStrs
                rw [List.length_map]
                omega)
            have e : (((T + 1 : Nat)) : Int) = (T : Int) + 1 := by omega
            rw [e] at h9
            exact Lib.hid h9
          obtain ⟨A5, c5, hv5⟩ := own_slice hrows.row
          subst hv5
          obtain ⟨AL, cL, hvL⟩ := own_slice R5.out.rows.row
          subst hvL
          have hcap : S ≤ cL := by
            have h1 := TS.out.2
            rcases R5.out.rows.row.2 with ⟨_, h0⟩ | ⟨g9, cap, cur, h2, _, _, h3, _⟩
            · omega
            · injection h2 with _ _ h2
              omega
          have y1 := R5.out.held.cell 1
          have y2 := R5.out.held.cell 2
          have y3 := R5.out.held.cell 3
          clear ho hL hO hGr hrows hin hgd hsub TG TL hlB OP z0 z1 z2
          go_wp2_with fail
          go_quiet ((go_at_call 24; exact Calls.quiet_of (TD _).out))
          have L6 := Lib.hid (L5.out.drewN nq)
          have R6 := Lib.hid (R5.out.under (below_drewN _ nq))
          clear TD L5 R5 y1 y2 y3
          generalize w5.drewN nq = w6 at *
          have y1 := R6.out.held.cell 1
          have y3 := R6.out.held.cell 3
          have x1 := R6.out.held.frozen 1
          go_upto_region 31 with fail
          obtain ⟨hc1, hc2⟩ := R6.out.cut (S := S) TS.out.2
          have RR := Lib.hid hc1
          have LV := Lib.hid (L6.out.own hc2 (fun x hx => by
            obtain rfl : x = r := by simpa using hx
            exact ⟨R6.out.new, AP.out _ (by simp)⟩))
          have AP : Hid (∀ x ∈ r :: rowsFoot (.slice AL S cL) (vs.take S), x ∉ G5 ++ F5) := fun x hx => by
            rcases List.mem_cons.1 hx with rfl | hx
            · exact AP.out _ (by simp)
            · exact AP.out x (List.mem_cons_of_mem _ (rowsFoot_cut hx))
          clear hc1 hc2 ht1
          refine wp_region_noPanic ?_
          go_region
          all_goals
            refine NoPanic.normal ?_
            have LV := Lib.hid (LV.out.under (Below.refl _ _).drew)
            have RR := Lib.hid (RR.out.under (Below.refl _ _).drew)
            clear L6 R6 y1 y3 x1
            have hlS : (Bs.take S).length = S := by rw [List.length_take]; have := TS.out; omega
            generalize (w6.setCell ⟨r, 1, none⟩ (.slice AL S cL)).drew = w7 at *
            have y1 := RR.out.held.cell 1
            have y2 := RR.out.held.cell 2
            have y3 := RR.out.held.cell 3
            obtain ⟨X, hX⟩ : ∃ X : Int, X = ((openS a0 (R - 1) s.start (T + 1) S B')).room := ⟨_, rfl⟩
            have hX2 : ((R - 1 : Nat) : Int) - ((((Bs.take S).drop (T)).map need).sum : Nat) = X := by rw [hX]; exact SS.out.room.symm
            have hbd : ((T : Nat) : Int) ≤ 131072 ∧ ((S : Nat) : Int) ≤ 131072 ∧ (((Bs.take S).length : Nat) : Int) ≤ 131072 := by
              have h1 := SS.out.ts
              have h2 := SS.out.count
              have h3 := SS.out.rec_
              omega
            obtain ⟨hb1, hb2, hb3⟩ := hbd
            have K1 : ∀ k, Hid (Calls Try.prog 25 #[.pointer (some ⟨b5, 0, none⟩)] (w7.drewN k) fun e w' => e = .returned (.int .i64 X) ∧ ∃ n, w' = (w7.drewN k).drewN n) := fun k => by
              obtain ⟨vn, hlog, _⟩ := (LV.out.drewN k).ld.log
              rw [hX]
              exact Lib.hid (room_any (w7.drewN k) b5 d vn _ hlog (by have := SS.out.inv.ok.needs; have := SS.out.inv.ok.ring; omega) (by have := SS.out.inv.ok.count; omega) (by have := SS.out.inv.ok.ring; omega))
            have K2 : ∀ k, Hid (Calls Try.prog 26 #[.pointer (some ⟨r, 0, none⟩)] (w7.drewN k) fun e w' => e = .returned (.int .i64 X) ∧ w' = w7.drewN k) := fun k => by
              have h9 := refRoom_any (w7.drewN k) r _ _ (R - 1) (T) (S) (Bs.take S) (RR.out.under (below_drewN _ k)) (by omega) (by have := SS.out.ts; omega) (by omega)
              rw [hX2] at h9
              exact Lib.hid (h9.mono fun _ _ ⟨h1, h2⟩ => ⟨h1, h2.symm⟩)
            have K3 : ∀ k, Hid (Calls Try.prog 27 #[.pointer (some ⟨b5, 0, none⟩)] (w7.drewN k) fun e w' => e = .returned (.int .i64 (((T : Nat) : Int) + 1)) ∧ w' = w7.drewN k) := fun k => by
              obtain ⟨vn, hlog, _⟩ := (LV.out.drewN k).ld.log
              have h9 := first_any (w7.drewN k) b5 d vn _ hlog
              rw [SS.out.first] at h9
              exact Lib.hid (h9.mono fun _ _ ⟨h1, h2⟩ => ⟨h1.trans (by congr 2), h2.symm⟩)
            have K4 : ∀ k, Hid (Calls Try.prog 28 #[.pointer (some ⟨b5, 0, none⟩)] (w7.drewN k) fun e w' => e = .returned (.int .i64 ((S : Nat) : Int)) ∧ ∃ n, w' = (w7.drewN k).drewN n) := fun k => by
              obtain ⟨vn, hlog, _⟩ := (LV.out.drewN k).ld.log
              have h9 := last_any (w7.drewN k) b5 d vn _ hlog (by rw [SS.out.first]; omega) (by have := SS.out.inv.ok.count; omega)
              rw [SS.out.last, hlS] at h9
              exact Lib.hid h9
            have K5 : ∀ k, Hid (Calls Try.prog 29 #[.pointer (some ⟨b5, 0, none⟩)] (w7.drewN k) fun e w' => e = .returned (.int .i64 ((S : Nat) : Int)) ∧ w' = w7.drewN k) := fun k => by
              obtain ⟨vn, hlog, _⟩ := (LV.out.drewN k).ld.log
              have h9 := synced_any (w7.drewN k) b5 d vn _ hlog
              rw [SS.out.synced] at h9
              exact Lib.hid (h9.mono fun _ _ ⟨h1, h2⟩ => ⟨h1, h2.symm⟩)
            have FIN : Hid (∀ k, Play w (w7.drewN k) a0 R (recs (l.take i) + o.batch.length) b5 G5 ((openS a0 (R - 1) s.start (T + 1) S B')) d F5 (m) r _ _ (Bs.take S) (T) (S)) := fun k => ⟨LV.out.drewN k, SS.out, RR.out.under (below_drewN _ k), AP.out⟩
            clear hX hX2 LV RR AP SS
            go_wp2_with fail
            go_quiet (first
              | (go_at_call 25; exact Calls.quiet_of (K1 _).out)
              | (go_at_call 26; exact Calls.quiet_of_same (K2 _).out)
              | (go_at_call 27; exact Calls.quiet_of_same (K3 _).out)
              | (go_at_call 28; exact Calls.quiet_of (K4 _).out)
              | (go_at_call 29; exact Calls.quiet_of_same (K5 _).out))
            go_wp2_with fail
            go_roundw
            case rel => exact ⟨i + 1, b5, G5, _, F5, _, _, _, _, _, _, by omega, by go_num, rfl, by rw [TK.out.1]; exact FIN.out _⟩
            case measure => simp [intOf]; omega
      · obtain rfl : i = N := by omega
        have BW := Lib.hid PP.out.lives.below
        go_wp2_with fail
        go_ret
        exact ⟨rfl, BW.out⟩
set_option maxRecDepth 100000 in
theorem opens {H : Type} {enc : TypeId × Value → H} {W : World} {base : Nat} {args : Array Value} {ds : List (DataW H)} {p : List MemPlace}
    (hval : ∀ (j : Nat) t v, Try.f3.params[j]? = some t → args[j]? = some v → Value.okWide Try.prog W .any base t v)
    (hA : DataW.TrodAll enc Try.prog W 0 (fun _ => true) true Try.f3.params.toList args.toList ds p) (hlt : ∀ x ∈ p, x.block < W.heap.size) (hsz : (DataW.weightsEach Try.prog Try.f3.params.toList ds).all (· ≤ reachBytes) = true) :
    Calls Try.prog 3 args W fun e W' => e = .returned (.bool true) ∧ Below W.heap.size W W' := by
  rw [Try.params3] at hA hval hsz
  obtain ⟨v0, vs0, d0, ds0, p0, q0, hargs, rfl, rfl, h0, r0⟩ := trodAll_cons hA
  obtain ⟨v1, vs1, d1, ds1, p1, q1, rfl, rfl, rfl, h1, r1⟩ := trodAll_cons r0
  obtain ⟨v2, vs2, d2, ds2, p2, q2, rfl, rfl, rfl, h2, r2⟩ := trodAll_cons r1
  obtain ⟨rfl, rfl, rfl⟩ := trodAll_nil r2
  obtain rfl : args = #[v0, v1, v2] := by cases args; simp_all
  obtain ⟨f, rfl, hf⟩ := open_u8 (hval 0 5 v0 rfl rfl) h0
  obtain ⟨n, rfl, hn⟩ := open_u8 (hval 1 5 v1 rfl rfl) h1
  obtain ⟨A, N, c, l, rfl, hl, hN⟩ := open_wops (hval 2 22 v2 rfl rfl) h2 (small_args hsz (j := 2) rfl rfl)
  exact walk f hf n hn A N c l W hl hN

set_option maxRecDepth 100000 in
theorem lifted (os : Os) (started : os.Started) (H : Type) (enc : TypeId × Value → H) :
    ReturnsInHanded {} Try.checked os 3 .any (Rows.walPlaysSpec.pre6 enc Try.prog Try.f3 Rows.walPlaysRow.domain false) (Rows.walPlaysSpec.post enc Try.prog Try.f3 false true false false) := by
  refine returnsInHanded_of_change_sized (C := Try.checked) own started (by kernel_rfl) Try.func3
    (ChangeSpec.witness6 (enc := enc) (C := Try.checked) false ⟨#[], #[.int .u8 0, .int .u8 0, .slice none 0 0], []⟩ 8 (by kernel_rfl) (by kernel_rfl) (by kernel_rfl) (by kernel_rfl)) ?_
  intro W base args ds gs before hval hW _ hsz0 _
  refine law_calls laidOut Try.underlying4 rfl (by rw [Try.params3]; exact of_decide_eq_true (by kernel_rfl)) rfl (fun ds h => by match ds, h with | [_, _, _], _ => rfl) hW ?_
  obtain ⟨rfl, p, hA, hlt⟩ := law_args rfl hW
  have hsz : (DataW.weightsEach Try.prog (Try.f3.params.toList ++ []) (ds ++ [])).all (· ≤ reachBytes) = true := hsz0
  rw [List.append_nil, List.append_nil] at hsz
  exact opens hval hA hlt hsz

theorem over : Rows.walPlaysRow.holds Try.pinned (OpenSpec.ofChange Rows.walPlaysSpec) :=
  OpenClaim.holds_of_wide 3 Try.f3 rfl rfl rfl rfl rfl rfl rfl ⟨rfl, rfl, rfl, rfl, rfl⟩ rfl rfl rfl rfl rfl (by kernel_rfl) Try.func3 (by kernel_rfl)
    (of_decide_eq_true (by kernel_rfl)) (by unfold Func.isWrapper; first | (rw [if_pos (by decide +kernel)]; kernel_rfl) | (rw [if_neg (by decide +kernel)]; exact ⟨rfl, rfl⟩))
    (fun os started H enc _ => lifted os started H enc)

theorem proved : Rows.WalPlaysSaid := over

end Go.Proofs.Ytacpgahbfmpiiaa.walPlays
