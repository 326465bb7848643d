/-
  P2.4: a crash that keeps the first k writes is as if these alone had been made, and flushed: the law answers true for every input, and its arguments read behind the call as before. No condition beside the row's own.
-/
import Derived.Test.YtejpefiblodefaaDiskF
namespace Go.Proofs.Ytejpefiblodefaa.diskPrefix
open Go.ChangeShapes Go.WideShapes Go.ChangeAt Go.RowKit

theorem own : ownKnob Try.prog.godebug = none := by kernel_rfl
theorem laidOut : laidOutB Try.prog = true := by kernel_rfl

/-- The writes that are done of those asked for. -/
def wl (L : List OpD) : List (Nat × List Nat) := (L.filter fun o => o.data.size ≤ 512).map fun o => ((low2 o.i).toNat, nums o.data)
theorem wl_append (a b : List OpD) : wl (a ++ b) = wl a ++ wl b := by simp [wl]
theorem wl_length (L : List OpD) : (wl L).length ≤ L.length := by unfold wl; rw [List.length_map]; exact List.length_filter_le _ _
theorem fold_eq (L : List OpD) : ∀ {m : Dsk.DM} {k : Nat}, Plain m k → L.foldl writeOp m = { m with wait := m.wait ++ wl L } := by
  induction L with
  | nil => intro m k _; simp [wl]
  | cons o r ih =>
    intro m k h
    rw [List.foldl_cons, ih (h.write o).1, (h.write o).2]
    by_cases hs : o.data.size ≤ 512
    · rw [if_pos hs]; simp [wl, hs]
    · rw [if_neg hs]; simp [wl, hs]
theorem writtenM_eq (L : List OpD) : writtenM L = { Dsk.fresh 4 with wait := wl L } := by
  have := fold_eq L (m := Dsk.fresh 4) (k := 0) ⟨rfl, rfl, rfl, Nat.le_refl _⟩
  exact this
theorem crashD_all (b : List (Nat × List Nat)) : ∀ (a : List (Nat × List Nat)) (d : List (List Nat)), Dsk.crashD (a ++ b) (List.replicate a.length true) d = Dsk.apply a d := by
  intro a
  induction a with
  | nil => intro d; exact Dsk.crashD_none b d
  | cons p r ih => intro d; simp only [List.cons_append, List.length_cons, List.replicate_succ, Dsk.crashD, List.tail_cons, List.headD_cons, if_true]; rw [ih]; rfl

theorem facts (l : List OpD) (M : Nat) (hM : M ≤ 200) : (writtenM (l.take M)).flushErr = 0 ∧ ((writtenM (l.take 200)).crash (List.replicate (wl (l.take M)).length true)).dur = (writtenM (l.take M)).flush.dur ∧
    ((writtenM (l.take 200)).crash (List.replicate (wl (l.take M)).length true)).seen = (writtenM (l.take M)).flush.seen ∧ (writtenM (l.take M)).flush.dead = false := by
  have e1 : (writtenM (l.take M)).flush = { Dsk.fresh 4 with dur := Dsk.apply (wl (l.take M)) (Dsk.fresh 4).dur } := by rw [writtenM_eq]; rfl
  have e2 : l.take 200 = l.take M ++ (l.take 200).drop M := by
    have h := List.take_append_drop M (l.take 200)
    rw [List.take_take, Nat.min_eq_left hM] at h
    exact h.symm
  have e3 : ((writtenM (l.take 200)).crash (List.replicate (wl (l.take M)).length true)).dur = Dsk.apply (wl (l.take M)) (Dsk.fresh 4).dur := by
    show Dsk.crashD (writtenM (l.take 200)).wait _ (writtenM (l.take 200)).dur = _
    rw [writtenM_eq (l.take 200)]
    show Dsk.crashD (wl (l.take 200)) _ (Dsk.fresh 4).dur = _
    rw [e2, wl_append]
    have e4 : (l.take M ++ (l.take 200).drop M).take M = l.take M := by rw [← e2, List.take_take, Nat.min_eq_left hM]
    exact crashD_all _ _ _
  refine ⟨by rw [writtenM_eq]; rfl, by rw [e3, e1], ?_, by rw [e1]; rfl⟩
  show ((writtenM (l.take 200)).crash _).dur = (writtenM (l.take M)).flush.seen
  rw [e3, e1]
  rfl

theorem infoB : (Try.prog.info? 4).map (fun i => (i.zero, i.size, i.bytes)) = some (some (.bool false), 1, 1) := by kernel_rfl
theorem make_bools (n : Nat) (hn : n ≤ 200) (u : World) : (Instr.makeSlice 33 (.int .i64 (n : Int)) (.int .i64 (n : Int))).run Try.prog u =
    .ok (.slice (some ⟨u.heap.size, 0, none⟩) n n) (u.alloc (.cells (madeCells #[.bool false] n) 4)) := by
  obtain ⟨i0, hi, hz0, hz1, hz2⟩ := info_parts infoB
  have h := run_make (P := Try.prog) u 33 4 i0 (.bool false) Try.underlying33 hi hz0 .i64 .i64 (n : Int) (n : Int) (by omega) (Int.le_refl _) (by rw [hz2]; omega) (by omega)
  have e : (n : Int).toNat = n := by omega
  rw [e] at h
  simpa [hz1, Value.cells] using h

/-- A row of N bools, the first j of them true. -/
def Keeps (wr : World) (g N j : Nat) : Prop := wr.ownsRow 0 4 1 (.slice (some ⟨g, 0, none⟩) N N) N (List.replicate j (Value.bool true) ++ List.replicate (N - j) (Value.bool false))
theorem Keeps.start (u : World) (N : Nat) (hN : N ≤ 200) : Keeps (u.alloc (.cells (madeCells #[.bool false] N) 4)) u.heap.size N 0 := by
  have h := World.ownsRow_lit (base := 0) (e := 4) (size := 1) u (madeCells #[.bool false] N) N (Nat.zero_le _) (by simp only [maxLen]; omega) (by simp [size_madeCells])
  rw [toList_madeCells_one] at h
  exact h
theorem Keeps.next {wr : World} {g N j : Nat} (h : Keeps wr g N j) (hj : j < N) : Keeps (wr.setCell ⟨g, j, none⟩ (.bool true)) g N (j + 1) := by
  have := (h.stored j (.bool true)).1
  unfold Keeps
  have e : (List.replicate j (Value.bool true) ++ List.replicate (N - j) (Value.bool false)).set j (.bool true) = List.replicate (j + 1) (Value.bool true) ++ List.replicate (N - (j + 1)) (Value.bool false) := by
    obtain ⟨r, hr⟩ : ∃ r, N - j = r + 1 := ⟨N - j - 1, by omega⟩
    have hr' : N - (j + 1) = r := by omega
    rw [hr, hr', List.set_append_right _ _ (by simp), List.replicate_succ, List.replicate_succ']
    simp
  rw [← e]
  exact this
theorem Keeps.bls {wr : World} {g N : Nat} (h : Keeps wr g N N) : Bls wr (some ⟨g, 0, none⟩) N (List.replicate N true) := by
  refine ⟨by simp, fun _ => ⟨g, 0, rfl, (h.lt g rfl).2, fun i hi => ?_⟩⟩
  rw [Nat.zero_add, h.cellAt i (by omega), Nat.sub_self, List.replicate_zero, List.append_nil, List.getElem?_replicate, if_pos hi, List.getD_eq_getElem?_getD, List.getElem?_replicate, if_pos hi]
  rfl

set_option maxRecDepth 100000 in
set_option maxHeartbeats 1600000 in
theorem walk (A : Option Addr) (n c : Nat) (l : List OpD) (K M : Nat) (w : World) (hl : Ops w A n l) (hn : n ≤ 9223372036854775807) (hK : K < 256) (hM : (M = K ∧ K ≤ 200) ∨ (M = 200 ∧ 200 ≤ K)) :
    Calls Try.prog 9 #[.slice A n c, .int .u8 (K : Int)] w fun e w' => e = .returned (.bool true) ∧ Below w.heap.size w w' := by
  have HL := Lib.hid hl
  have HM := Lib.hid hM
  have hM2 : M ≤ 200 := by omega
  have HX := Lib.hid (facts l M hM2)
  clear hl
  go_enter Try.func9, Try.ntmps9
  go_wp2_with fail
  refine (fixed_any _).mono ?_
  rintro e w1 ⟨rfl, hbel⟩
  have B1 := Lib.hid hbel
  have L1 := Lib.hid (HL.out.kept hbel)
  clear hbel hM
  go_wp2_with fail
  go_loop [5, 6] (fun x i => ∃ j : Nat, j ≤ n ∧ j ≤ 200 ∧ i = .int .i64 j ∧ x = .int .i64 ((wl (l.take (min j K))).length : Nat)) (fun _ i => n - (intOf i).toNat)
  case atStart => exact ⟨0, by omega, by omega, rfl, by rw [Nat.zero_min]; rfl⟩
  case round =>
    obtain ⟨j, hj, hj2, rfl, rfl⟩ := hrel
    have hle := wl_length (l.take (min j K))
    rw [List.length_take] at hle
    by_cases hlt : j < n ∧ j < 200
    · obtain ⟨h1, h2⟩ := hlt
      have k1 : (j : Int) < (n : Int) := by omega
      have k2 : (j : Int) < 200 := by omega
      have k0 : (0 : Int) ≤ (j : Int) := by omega
      obtain ⟨b, off, o, rfl, hblt, hlk, hog, htk, hx0, hx1, hx2, hx3⟩ := L1.out.at_ h1
      have HT := Lib.hid htk
      have hs := hog.s
      clear hlk hog htk hx0 hx1 hx3
      by_cases hjk : j < K
      · have e1 : min (j + 1) K = j + 1 := by omega
        have e2 : min j K = j := by omega
        have E1 := Lib.hid e1
        have E2 := Lib.hid e2
        rw [e2] at hle ⊢
        clear e1 e2
        have k3 : (j : Int) < (K : Int) := by omega
        by_cases hsz : o.data.size ≤ 512
        · have k4 : (o.data.size : Int) ≤ 512 := by omega
          have E3 : Hid ((wl (l.take j ++ [o])).length = (wl (l.take j)).length + 1) := by
            show _ = _
            rw [wl_append]
            simp [wl, hsz]
          generalize (wl (l.take j)).length = q at *
          go_wp2_with fail
          go_round
          case rel => exact ⟨j + 1, by omega, by omega, by go_num, by rw [E1.out, HT.out, E3.out]; go_num⟩
          case measure => simp [intOf]; omega
        · have k4 : decide ((o.data.size : Int) ≤ 512) = false := by simp; omega
          have E3 : Hid ((wl (l.take j ++ [o])).length = (wl (l.take j)).length) := by
            show _ = _
            rw [wl_append]
            simp [wl, hsz]
          generalize (wl (l.take j)).length = q at *
          go_wp2_with fail
          go_round
          case rel => exact ⟨j + 1, by omega, by omega, by go_num, by rw [E1.out, HT.out, E3.out]⟩
          case measure => simp [intOf]; omega
      · have e1 : min (j + 1) K = K := by omega
        have e2 : min j K = K := by omega
        have E1 := Lib.hid e1
        rw [e2] at hle ⊢
        clear e1 e2
        have k3 : decide (j < K) = false := by simp; omega
        by_cases hsz : o.data.size ≤ 512
        · have k4 : (o.data.size : Int) ≤ 512 := by omega
          go_wp2_with fail
          go_round
          case rel => exact ⟨j + 1, by omega, by omega, by go_num, by rw [E1.out]⟩
          case measure => simp [intOf]; omega
        · have k4 : decide ((o.data.size : Int) ≤ 512) = false := by simp; omega
          go_wp2_with fail
          go_round
          case rel => exact ⟨j + 1, by omega, by omega, by go_num, by rw [E1.out]⟩
          case measure => simp [intOf]; omega
    · have eN : (wl (l.take (min j K))).length = (wl (l.take M)).length := by
        have h1 := HM.out
        have h2 : l.take (min j K) = l.take M := by
          by_cases hjn : j = n
          · subst hjn
            rcases Nat.lt_or_ge j K with h3 | h3
            · rw [Nat.min_eq_left (by omega), List.take_of_length_le (by rw [L1.out.1]; exact Nat.le_refl _), List.take_of_length_le (by rw [L1.out.1]; omega)]
            · rw [Nat.min_eq_right h3]
              have : M = K := by omega
              rw [this]
          · have : min j K = M := by omega
            rw [this]
        rw [h2]
      rw [eN] at hle ⊢
      have hN : (wl (l.take M)).length ≤ 200 := by
        have := wl_length (l.take M)
        rw [List.length_take] at this
        omega
      have HX2 := Lib.hid (facts l M hM2)
      obtain ⟨N, hNe⟩ : ∃ N, N = (wl (l.take M)).length := ⟨_, rfl⟩
      rw [← hNe] at hN ⊢
      have HX3 := HX2
      rw [← hNe] at HX3
      clear HX HX2 hle eN hNe
      have hmk := make_bools N hN
      by_cases hjn : j < n
      · have hj200 : j = 200 := by omega
        have k1 : (j : Int) < (n : Int) := by omega
        have k2 : decide ((j : Int) < 200) = false := by simp; omega
        have KS := Lib.hid (Keeps.start w1 N hN)
        have BS := Lib.hid ((Below.refl w1.heap.size w1).alloc (Nat.le_refl _) (.cells (madeCells #[.bool false] N) 4))
        go_wp2_with fail
        clear hmk
        obtain ⟨g, hg⟩ : ∃ g, g = w1.heap.size := ⟨_, rfl⟩
        have HG := Lib.hid hg
        rw [← hg] at KS BS ⊢
        clear hg
        go_loopw [8] (fun i wr => ∃ q : Nat, q ≤ N ∧ i = .int .i64 q ∧ Keeps wr g N q ∧ Below g w1 wr) (fun i _ => N - (intOf i).toNat)
        case atStart => exact ⟨0, by omega, rfl, KS.out, BS.out⟩
        case round =>
          obtain ⟨q, hq, rfl, hKe, hBe⟩ := hrel
          have KE := Lib.hid hKe
          have BE := Lib.hid hBe
          by_cases hqN : q < N
          · have q0 : (0 : Int) ≤ (q : Int) := by omega
            have q1 : (q : Int) < (N : Int) := by omega
            have qc : ∃ u, wr.cell? ⟨g, q, none⟩ = some u := by
              rw [hKe.cellAt q (by omega)]
              exact ⟨_, List.getElem?_eq_getElem (by simp; omega)⟩
            obtain ⟨u, qc⟩ := qc
            have qf := hKe.frozenAt q
            clear hKe hBe
            go_wp2_with fail
            go_roundw
            case rel => exact ⟨q + 1, by omega, by go_num, KE.out.next hqN, BE.out.setCell (Nat.le_refl _) _⟩
            case measure => simp [intOf]; omega
          · obtain rfl : q = N := by omega
            have q1 : decide ((q : Int) < (q : Int)) = false := by simp
            have BW : Hid (Below w1.heap.size w1 wr) := by rw [← HG.out]; exact hBe
            have LB := Lib.hid hKe.bls
            have GL := Lib.hid (hKe.lt g rfl).2
            clear hKe hBe KE BE
            go_wp2_with fail
            refine (written_any A n c l 200 _ (L1.out.kept BW.out) hn (by omega)).mono ?_
            intro e w2 hn2
            obtain ⟨a, F, rfl, hL⟩ := hn2.lives
            have L2 := Lib.hid hL
            clear hn2 hL
            have hM3 := HM.out
            rcases hM3 with ⟨rfl, hK2⟩ | ⟨rfl, hK2⟩
            · have hK3 : (M : Int) ≤ 200 := by omega
              go_wp2_with fail
              refine (written_any A n c l M _ (L1.out.kept (BW.out.trans (L2.out.below.mono BW.out.size))) hn (by omega)).mono ?_
              intro e w3 hn3
              obtain ⟨b, G, rfl, hL⟩ := hn3.lives
              have P3 := Lib.hid (Pair.start L2.out hL)
              have B3 := Lib.hid (hL.below)
              clear hn3 hL
              have hw2 := Lib.hid (writtenM_plain (l.take 200)).wait
              have hwM := Lib.hid (writtenM_plain (l.take M)).wait
              go_wp2_with fail
              refine (crash_any _ a F _ (some ⟨g, 0, none⟩) q q (List.replicate q true) P3.out.a.disk ((LB.out.kept L2.out.below).kept B3.out) (by omega) (fun _ x hx => by injection hx with hx; subst hx; exact P3.out.a.old g GL.out) (by have := hw2.out; rw [List.length_take] at this; omega)).mono ?_
              rintro e w4 ⟨rfl, ht⟩
              obtain ⟨F4, hP⟩ := P3.out.left ht
              have P4 := Lib.hid hP
              clear hP ht P3
              go_wp2_with fail
              refine (flush_any _ b G _ P4.out.b.disk (by have := hwM.out; rw [List.length_take] at this; omega)).mono ?_
              rintro e w5 ⟨rfl, ht⟩
              obtain ⟨G5, hP⟩ := P4.out.right ht
              have P5 := Lib.hid hP
              clear hP ht P4
              rw [HX3.out.1]
              go_wp2_with fail
              refine (full_any _ a b F4 G5 _ _ P5.out.a.disk P5.out.b.disk (by rw [HX3.out.2.1]) rfl HX3.out.2.2.2 (fun i => by rw [HX3.out.2.2.1]) (fun i => by rw [HX3.out.2.1])).mono ?_
              rintro e w6 ⟨rfl, hb6⟩
              have P6 := Lib.hid (P5.out.under hb6)
              clear hb6 P5
              go_wp2_with fail
              go_ret
              exact ⟨rfl, B1.out.trans ((BW.out.trans (P6.out.a.below.mono BW.out.size)).mono B1.out.size)⟩
            · have hK3 : (200 : Int) ≤ (K : Int) := by omega
              by_cases hK4 : K = 200
              · subst hK4
                go_wp2_with fail
                refine (written_any A n c l 200 _ (L1.out.kept (BW.out.trans (L2.out.below.mono BW.out.size))) hn (by omega)).mono ?_
                intro e w3 hn3
                obtain ⟨b, G, rfl, hL⟩ := hn3.lives
                have P3 := Lib.hid (Pair.start L2.out hL)
                have B3 := Lib.hid (hL.below)
                clear hn3 hL
                have hw2 := Lib.hid (writtenM_plain (l.take 200)).wait
                have hwM := Lib.hid (writtenM_plain (l.take 200)).wait
                go_wp2_with fail
                refine (crash_any _ a F _ (some ⟨g, 0, none⟩) q q (List.replicate q true) P3.out.a.disk ((LB.out.kept L2.out.below).kept B3.out) (by omega) (fun _ x hx => by injection hx with hx; subst hx; exact P3.out.a.old g GL.out) (by have := hw2.out; rw [List.length_take] at this; omega)).mono ?_
                rintro e w4 ⟨rfl, ht⟩
                obtain ⟨F4, hP⟩ := P3.out.left ht
                have P4 := Lib.hid hP
                clear hP ht P3
                go_wp2_with fail
                refine (flush_any _ b G _ P4.out.b.disk (by have := hwM.out; rw [List.length_take] at this; omega)).mono ?_
                rintro e w5 ⟨rfl, ht⟩
                obtain ⟨G5, hP⟩ := P4.out.right ht
                have P5 := Lib.hid hP
                clear hP ht P4
                rw [HX3.out.1]
                go_wp2_with fail
                refine (full_any _ a b F4 G5 _ _ P5.out.a.disk P5.out.b.disk (by rw [HX3.out.2.1]) rfl HX3.out.2.2.2 (fun i => by rw [HX3.out.2.2.1]) (fun i => by rw [HX3.out.2.1])).mono ?_
                rintro e w6 ⟨rfl, hb6⟩
                have P6 := Lib.hid (P5.out.under hb6)
                clear hb6 P5
                go_wp2_with fail
                go_ret
                exact ⟨rfl, B1.out.trans ((BW.out.trans (P6.out.a.below.mono BW.out.size)).mono B1.out.size)⟩
              · have hK5 : (200 : Int) < (K : Int) := by omega
                go_wp2_with fail
                refine (written_any A n c l 200 _ (L1.out.kept (BW.out.trans (L2.out.below.mono BW.out.size))) hn (by omega)).mono ?_
                intro e w3 hn3
                obtain ⟨b, G, rfl, hL⟩ := hn3.lives
                have P3 := Lib.hid (Pair.start L2.out hL)
                have B3 := Lib.hid (hL.below)
                clear hn3 hL
                have hw2 := Lib.hid (writtenM_plain (l.take 200)).wait
                have hwM := Lib.hid (writtenM_plain (l.take 200)).wait
                go_wp2_with fail
                refine (crash_any _ a F _ (some ⟨g, 0, none⟩) q q (List.replicate q true) P3.out.a.disk ((LB.out.kept L2.out.below).kept B3.out) (by omega) (fun _ x hx => by injection hx with hx; subst hx; exact P3.out.a.old g GL.out) (by have := hw2.out; rw [List.length_take] at this; omega)).mono ?_
                rintro e w4 ⟨rfl, ht⟩
                obtain ⟨F4, hP⟩ := P3.out.left ht
                have P4 := Lib.hid hP
                clear hP ht P3
                go_wp2_with fail
                refine (flush_any _ b G _ P4.out.b.disk (by have := hwM.out; rw [List.length_take] at this; omega)).mono ?_
                rintro e w5 ⟨rfl, ht⟩
                obtain ⟨G5, hP⟩ := P4.out.right ht
                have P5 := Lib.hid hP
                clear hP ht P4
                rw [HX3.out.1]
                go_wp2_with fail
                refine (full_any _ a b F4 G5 _ _ P5.out.a.disk P5.out.b.disk (by rw [HX3.out.2.1]) rfl HX3.out.2.2.2 (fun i => by rw [HX3.out.2.2.1]) (fun i => by rw [HX3.out.2.1])).mono ?_
                rintro e w6 ⟨rfl, hb6⟩
                have P6 := Lib.hid (P5.out.under hb6)
                clear hb6 P5
                go_wp2_with fail
                go_ret
                exact ⟨rfl, B1.out.trans ((BW.out.trans (P6.out.a.below.mono BW.out.size)).mono B1.out.size)⟩
      · obtain rfl : j = n := by omega
        have k2 : decide ((j : Int) < (j : Int)) = false := by simp
        have KS := Lib.hid (Keeps.start w1 N hN)
        have BS := Lib.hid ((Below.refl w1.heap.size w1).alloc (Nat.le_refl _) (.cells (madeCells #[.bool false] N) 4))
        go_wp2_with fail
        clear hmk
        obtain ⟨g, hg⟩ : ∃ g, g = w1.heap.size := ⟨_, rfl⟩
        have HG := Lib.hid hg
        rw [← hg] at KS BS ⊢
        clear hg
        go_loopw [8] (fun i wr => ∃ q : Nat, q ≤ N ∧ i = .int .i64 q ∧ Keeps wr g N q ∧ Below g w1 wr) (fun i _ => N - (intOf i).toNat)
        case atStart => exact ⟨0, by omega, rfl, KS.out, BS.out⟩
        case round =>
          obtain ⟨q, hq, rfl, hKe, hBe⟩ := hrel
          have KE := Lib.hid hKe
          have BE := Lib.hid hBe
          by_cases hqN : q < N
          · have q0 : (0 : Int) ≤ (q : Int) := by omega
            have q1 : (q : Int) < (N : Int) := by omega
            have qc : ∃ u, wr.cell? ⟨g, q, none⟩ = some u := by
              rw [hKe.cellAt q (by omega)]
              exact ⟨_, List.getElem?_eq_getElem (by simp; omega)⟩
            obtain ⟨u, qc⟩ := qc
            have qf := hKe.frozenAt q
            clear hKe hBe
            go_wp2_with fail
            go_roundw
            case rel => exact ⟨q + 1, by omega, by go_num, KE.out.next hqN, BE.out.setCell (Nat.le_refl _) _⟩
            case measure => simp [intOf]; omega
          · obtain rfl : q = N := by omega
            have q1 : decide ((q : Int) < (q : Int)) = false := by simp
            have BW : Hid (Below w1.heap.size w1 wr) := by rw [← HG.out]; exact hBe
            have LB := Lib.hid hKe.bls
            have GL := Lib.hid (hKe.lt g rfl).2
            clear hKe hBe KE BE
            go_wp2_with fail
            refine (written_any A j c l 200 _ (L1.out.kept BW.out) hn (by omega)).mono ?_
            intro e w2 hn2
            obtain ⟨a, F, rfl, hL⟩ := hn2.lives
            have L2 := Lib.hid hL
            clear hn2 hL
            have hM3 := HM.out
            rcases hM3 with ⟨rfl, hK2⟩ | ⟨rfl, hK2⟩
            · have hK3 : (M : Int) ≤ 200 := by omega
              go_wp2_with fail
              refine (written_any A j c l M _ (L1.out.kept (BW.out.trans (L2.out.below.mono BW.out.size))) hn (by omega)).mono ?_
              intro e w3 hn3
              obtain ⟨b, G, rfl, hL⟩ := hn3.lives
              have P3 := Lib.hid (Pair.start L2.out hL)
              have B3 := Lib.hid (hL.below)
              clear hn3 hL
              have hw2 := Lib.hid (writtenM_plain (l.take 200)).wait
              have hwM := Lib.hid (writtenM_plain (l.take M)).wait
              go_wp2_with fail
              refine (crash_any _ a F _ (some ⟨g, 0, none⟩) q q (List.replicate q true) P3.out.a.disk ((LB.out.kept L2.out.below).kept B3.out) (by omega) (fun _ x hx => by injection hx with hx; subst hx; exact P3.out.a.old g GL.out) (by have := hw2.out; rw [List.length_take] at this; omega)).mono ?_
              rintro e w4 ⟨rfl, ht⟩
              obtain ⟨F4, hP⟩ := P3.out.left ht
              have P4 := Lib.hid hP
              clear hP ht P3
              go_wp2_with fail
              refine (flush_any _ b G _ P4.out.b.disk (by have := hwM.out; rw [List.length_take] at this; omega)).mono ?_
              rintro e w5 ⟨rfl, ht⟩
              obtain ⟨G5, hP⟩ := P4.out.right ht
              have P5 := Lib.hid hP
              clear hP ht P4
              rw [HX3.out.1]
              go_wp2_with fail
              refine (full_any _ a b F4 G5 _ _ P5.out.a.disk P5.out.b.disk (by rw [HX3.out.2.1]) rfl HX3.out.2.2.2 (fun i => by rw [HX3.out.2.2.1]) (fun i => by rw [HX3.out.2.1])).mono ?_
              rintro e w6 ⟨rfl, hb6⟩
              have P6 := Lib.hid (P5.out.under hb6)
              clear hb6 P5
              go_wp2_with fail
              go_ret
              exact ⟨rfl, B1.out.trans ((BW.out.trans (P6.out.a.below.mono BW.out.size)).mono B1.out.size)⟩
            · have hK3 : (200 : Int) ≤ (K : Int) := by omega
              by_cases hK4 : K = 200
              · subst hK4
                go_wp2_with fail
                refine (written_any A j c l 200 _ (L1.out.kept (BW.out.trans (L2.out.below.mono BW.out.size))) hn (by omega)).mono ?_
                intro e w3 hn3
                obtain ⟨b, G, rfl, hL⟩ := hn3.lives
                have P3 := Lib.hid (Pair.start L2.out hL)
                have B3 := Lib.hid (hL.below)
                clear hn3 hL
                have hw2 := Lib.hid (writtenM_plain (l.take 200)).wait
                have hwM := Lib.hid (writtenM_plain (l.take 200)).wait
                go_wp2_with fail
                refine (crash_any _ a F _ (some ⟨g, 0, none⟩) q q (List.replicate q true) P3.out.a.disk ((LB.out.kept L2.out.below).kept B3.out) (by omega) (fun _ x hx => by injection hx with hx; subst hx; exact P3.out.a.old g GL.out) (by have := hw2.out; rw [List.length_take] at this; omega)).mono ?_
                rintro e w4 ⟨rfl, ht⟩
                obtain ⟨F4, hP⟩ := P3.out.left ht
                have P4 := Lib.hid hP
                clear hP ht P3
                go_wp2_with fail
                refine (flush_any _ b G _ P4.out.b.disk (by have := hwM.out; rw [List.length_take] at this; omega)).mono ?_
                rintro e w5 ⟨rfl, ht⟩
                obtain ⟨G5, hP⟩ := P4.out.right ht
                have P5 := Lib.hid hP
                clear hP ht P4
                rw [HX3.out.1]
                go_wp2_with fail
                refine (full_any _ a b F4 G5 _ _ P5.out.a.disk P5.out.b.disk (by rw [HX3.out.2.1]) rfl HX3.out.2.2.2 (fun i => by rw [HX3.out.2.2.1]) (fun i => by rw [HX3.out.2.1])).mono ?_
                rintro e w6 ⟨rfl, hb6⟩
                have P6 := Lib.hid (P5.out.under hb6)
                clear hb6 P5
                go_wp2_with fail
                go_ret
                exact ⟨rfl, B1.out.trans ((BW.out.trans (P6.out.a.below.mono BW.out.size)).mono B1.out.size)⟩
              · have hK5 : (200 : Int) < (K : Int) := by omega
                go_wp2_with fail
                refine (written_any A j c l 200 _ (L1.out.kept (BW.out.trans (L2.out.below.mono BW.out.size))) hn (by omega)).mono ?_
                intro e w3 hn3
                obtain ⟨b, G, rfl, hL⟩ := hn3.lives
                have P3 := Lib.hid (Pair.start L2.out hL)
                have B3 := Lib.hid (hL.below)
                clear hn3 hL
                have hw2 := Lib.hid (writtenM_plain (l.take 200)).wait
                have hwM := Lib.hid (writtenM_plain (l.take 200)).wait
                go_wp2_with fail
                refine (crash_any _ a F _ (some ⟨g, 0, none⟩) q q (List.replicate q true) P3.out.a.disk ((LB.out.kept L2.out.below).kept B3.out) (by omega) (fun _ x hx => by injection hx with hx; subst hx; exact P3.out.a.old g GL.out) (by have := hw2.out; rw [List.length_take] at this; omega)).mono ?_
                rintro e w4 ⟨rfl, ht⟩
                obtain ⟨F4, hP⟩ := P3.out.left ht
                have P4 := Lib.hid hP
                clear hP ht P3
                go_wp2_with fail
                refine (flush_any _ b G _ P4.out.b.disk (by have := hwM.out; rw [List.length_take] at this; omega)).mono ?_
                rintro e w5 ⟨rfl, ht⟩
                obtain ⟨G5, hP⟩ := P4.out.right ht
                have P5 := Lib.hid hP
                clear hP ht P4
                rw [HX3.out.1]
                go_wp2_with fail
                refine (full_any _ a b F4 G5 _ _ P5.out.a.disk P5.out.b.disk (by rw [HX3.out.2.1]) rfl HX3.out.2.2.2 (fun i => by rw [HX3.out.2.2.1]) (fun i => by rw [HX3.out.2.1])).mono ?_
                rintro e w6 ⟨rfl, hb6⟩
                have P6 := Lib.hid (P5.out.under hb6)
                clear hb6 P5
                go_wp2_with fail
                go_ret
                exact ⟨rfl, B1.out.trans ((BW.out.trans (P6.out.a.below.mono BW.out.size)).mono B1.out.size)⟩
theorem opens {H : Type} {enc : TypeId × Value → H} {W : World} {base : Nat} {args : Array Value} {ds : List (DataW H)} {p : List MemPlace}
    (hval : ∀ (j : Nat) t v, Try.f9.params[j]? = some t → args[j]? = some v → Value.okWide Try.prog W .any base t v)
    (hA : DataW.TrodAll enc Try.prog W 0 (fun _ => true) true Try.f9.params.toList args.toList ds p) (hlt : ∀ x ∈ p, x.block < W.heap.size) (hsz : (DataW.weightsEach Try.prog Try.f9.params.toList ds).all (· ≤ reachBytes) = true) :
    Calls Try.prog 9 args W fun e W' => e = .returned (.bool true) ∧ Below W.heap.size W W' := by
  rw [Try.params9] at hA hval hsz
  obtain ⟨v0, vs0, d0, ds0, p0, q0, hargs, rfl, rfl, h0, r0⟩ := trodAll_cons hA
  obtain ⟨v1, vs1, d1, ds1, p1, q1, rfl, rfl, rfl, h1, r1⟩ := trodAll_cons r0
  obtain ⟨rfl, rfl, rfl⟩ := trodAll_nil r1
  obtain rfl : args = #[v0, v1] := by cases args; simp_all
  obtain ⟨A, n, c, l, rfl, hl, hn, _⟩ := open_ops (hval 0 22 v0 rfl rfl) h0
  obtain ⟨K, rfl, hK⟩ := open_u8 (hval 1 5 v1 rfl rfl) h1
  exact walk A n c l K (if K ≤ 200 then K else 200) W hl hn hK (by split <;> omega)

set_option maxRecDepth 100000 in
theorem lifted (os : Os) (started : os.Started) (H : Type) (enc : TypeId × Value → H) :
    ReturnsInHanded {} Try.checked os 9 .any (Rows.diskPrefixSpec.pre6 enc Try.prog Try.f9 Rows.diskPrefixRow.domain false) (Rows.diskPrefixSpec.post enc Try.prog Try.f9 false true false false) := by
  refine returnsInHanded_of_change_sized (C := Try.checked) own started (by kernel_rfl) Try.func9
    (ChangeSpec.witness6 (enc := enc) (C := Try.checked) false ⟨#[], #[.slice none 0 0, .int .u8 0], []⟩ 8 (by kernel_rfl) (by kernel_rfl) (by kernel_rfl) (by kernel_rfl)) ?_
  intro W base args ds gs before hval hW _ hsz0 _
  refine law_calls laidOut Try.underlying4 rfl (by rw [Try.params9]; exact of_decide_eq_true (by kernel_rfl)) rfl (fun ds h => by match ds, h with | [_, _], _ => rfl) hW ?_
  obtain ⟨rfl, p, hA, hlt⟩ := law_args rfl hW
  have hsz : (DataW.weightsEach Try.prog (Try.f9.params.toList ++ []) (ds ++ [])).all (· ≤ reachBytes) = true := hsz0
  rw [List.append_nil, List.append_nil] at hsz
  exact opens hval hA hlt hsz

theorem over : Rows.diskPrefixRow.holds Try.pinned (OpenSpec.ofChange Rows.diskPrefixSpec) :=
  OpenClaim.holds_of_wide 9 Try.f9 rfl rfl rfl rfl rfl rfl rfl ⟨rfl, rfl, rfl, rfl, rfl⟩ rfl rfl rfl rfl rfl (by kernel_rfl) Try.func9 (by kernel_rfl)
    (of_decide_eq_true (by kernel_rfl)) (by unfold Func.isWrapper; first | (rw [if_pos (by decide +kernel)]; kernel_rfl) | (rw [if_neg (by decide +kernel)]; exact ⟨rfl, rfl⟩))
    (fun os started H enc _ => lifted os started H enc)

theorem proved : Rows.DiskPrefixSaid := over

end Go.Proofs.Ytejpefiblodefaa.diskPrefix
