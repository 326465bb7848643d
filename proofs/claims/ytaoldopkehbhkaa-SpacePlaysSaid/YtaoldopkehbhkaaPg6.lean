/-
  pager: the contract of Make, on a fresh disk.
-/
import Derived.Test.YtaoldopkehbhkaaPg5
namespace Go.Proofs.Ytaoldopkehbhkaa
open Go.RowKit Go.Maps Wal

/-- A call, and what it leaves of a disk. -/
theorem pcheck_any (w : World) (d : Nat) (F : List Nat) (m : Dsk.DM) (log : Nat) (h : DiskAt w d F m) (h2 : 2 ≤ log) (hl : log < m.dur.length) :
    Calls Try.prog 34 #[.pointer (some ⟨d, 0, none⟩), .int .i64 (log : Int)] w fun e w' => e = .returned (.int .i64 0) ∧ w = w' := by
  have S := Lib.hid (size_any w d F m h)
  have k1 : (2 : Int) ≤ (log : Int) := by omega
  have k2 : (log : Int) < (m.dur.length : Int) := by omega
  clear h
  go_enter Try.func34, Try.ntmps34
  go_wp2_with fail
  refine S.out.mono ?_
  rintro e w' ⟨rfl, rfl⟩
  go_wp2_with fail
  go_ret
  exact ⟨rfl, rfl⟩
theorem newPager_any (w : World) (d lb : Nat) (log : Nat) :
    Calls Try.prog 38 #[.pointer (some ⟨d, 0, none⟩), .pointer (some ⟨lb, 0, none⟩), .int .i64 (log : Int)] w fun e w' => e = .returned (.pointer (some ⟨w.heap.size + 1, 0, none⟩)) ∧
      w' = (w.alloc (.map #[] 0)).alloc (.cells #[.pointer (some ⟨d, 0, none⟩), .pointer (some ⟨lb, 0, none⟩), .int .i64 (log : Int), .map (some w.heap.size), .pointer none, .bool false] 87) := by
  have hmm := @run_makeMap Try.prog
  go_enter Try.func38, Try.ntmps38
  go_wp2_with fail
  go_ret
  exact ⟨rfl, rfl⟩
/-- A pager that was made on a fresh disk of M sectors, with a log of so many. -/
structure MadePag (w : World) (d : Nat) (F : List Nat) (M log : Nat) (P : PS) (w' : World) : Prop where
  pag : PagAt w' P (.pointer none)
  d_ : P.d = d
  reg : P.reg = log
  n : P.N = M - log
  alive : P.dead = false
  none_ : P.f = fun _ => none
  s_ : P.s = (makeO (Dsk.fresh M) 0 log).2.1
  m_ : P.m = (makeO (Dsk.fresh M) 0 log).2.2
  only : Only F w w'
  new : ∀ x, (x = P.p ∨ x = P.am ∨ x ∈ P.G) → w.heap.size ≤ x
  foot : ∀ x ∈ P.F, x ∈ F ∨ w.heap.size ≤ x
theorem makeO_fresh (M log : Nat) (hM : 2 ≤ log ∧ log < M) : (makeO (Dsk.fresh M) 0 log).1 = 0 ∧ (makeO (Dsk.fresh M) 0 log).2.2.dead = false ∧ (makeO (Dsk.fresh M) 0 log).2.2.fuel = -1 ∧ (makeO (Dsk.fresh M) 0 log).2.2.wait = [] ∧
    (makeO (Dsk.fresh M) 0 log).2.2.dur = (List.replicate M []).set 0 (told 0 (log - 1) 0 1 0) := by
  have hlen : (Dsk.fresh M).dur.length = M := by simp [Dsk.fresh]
  obtain ⟨h1, h2⟩ := Dsk.write_calm (m := Dsk.fresh M) (i := 0) (l := told 0 (log - 1) 0 1 0) rfl rfl (by rw [hlen]; omega) (by rw [told_length]; omega)
  obtain ⟨m1, hm1⟩ : ∃ m1 : Dsk.DM, m1 = ⟨List.replicate M [], [(0, told 0 (log - 1) 0 1 0)], -1, false⟩ := ⟨_, rfl⟩
  have h2' : (Dsk.fresh M).write ((0 : Nat) : Int) (told 0 (log - 1) 0 1 0) = m1 := by rw [h2, hm1]; rfl
  have h3 : m1.flushErr = 0 := by rw [hm1]; rfl
  have h4 : m1.flush = ⟨(List.replicate M []).set 0 (told 0 (log - 1) 0 1 0), [], -1, false⟩ := by rw [hm1]; rfl
  have e : ∃ s, makeO (Dsk.fresh M) 0 log = (0, s, m1.flush) := by
    unfold makeO tellO wrO flO
    dsimp only [LS.fresh]
    rw [h1, h2']
    simp only [ne_eq, not_true_eq_false, if_false, h3]
    exact ⟨_, rfl⟩
  obtain ⟨s, e⟩ := e
  rw [e, h4]
  exact ⟨rfl, rfl, rfl, rfl, rfl⟩
set_option maxRecDepth 100000 in
set_option maxHeartbeats 1600000 in
theorem pmake_fresh (w : World) (d : Nat) (F : List Nat) (M log : Nat) (h : DiskAt w d F (Dsk.fresh M)) (h2 : 2 ≤ log) (hl : log < M) :
    Calls Try.prog 20 #[.pointer (some ⟨d, 0, none⟩), .int .i64 (log : Int)] w fun e w' => ∃ P, e = .returned (.tuple #[.pointer (some ⟨P.p, 0, none⟩), .int .i64 0]) ∧ MadePag w d F M log P w' := by
  have hlen : (Dsk.fresh M).dur.length = M := by simp [Dsk.fresh]
  have hmost := h.good.most
  rw [hlen] at hmost
  have HH := Lib.hid h
  have CK := Lib.hid (pcheck_any w d F _ log h h2 (by rw [hlen]; exact hl))
  have E1 := erase_any w d F _ 0 1 h rfl rfl (by omega) (by rw [hlen]; omega) (by simp [Dsk.fresh])
  rw [Dsk.erased_fresh (by omega) (by omega)] at E1
  have E1 := Lib.hid E1
  have HL : Hid (2 ≤ log ∧ log < M) := ⟨h2, hl⟩
  have HN := Lib.hid hlen
  clear h h2 hl hlen
  go_enter Try.func20, Try.ntmps20
  go_wp2_with fail
  refine CK.out.mono ?_
  rintro e w' ⟨rfl, rfl⟩
  go_wp2_with fail
  refine E1.out.mono ?_
  rintro e w1 ⟨rfl, F1, hD1, hO1, hG1⟩
  have D1 := Lib.hid hD1
  have O1 : Hid (Only F w w1 ∧ ∀ x ∈ F1, x ∈ F ∨ w.heap.size ≤ x) := ⟨hO1, hG1⟩
  have S1 := size_any w1 d F1 _ D1.out
  rw [HN.out] at S1
  have S1 := Lib.hid S1
  have E2 := erase_any w1 d F1 _ log M D1.out rfl rfl (by have := HL.out; omega) (by rw [HN.out]; exact Nat.le_refl _) (by simp [Dsk.fresh])
  rw [Dsk.erased_fresh (by have := HL.out; omega) (Nat.le_refl _)] at E2
  have E2 := Lib.hid E2
  clear hD1 hO1 hG1 E1 CK HH
  go_wp2_with fail
  refine S1.out.mono ?_
  rintro e w' ⟨rfl, rfl⟩
  go_wp2_with fail
  refine E2.out.mono ?_
  rintro e w2 ⟨rfl, F2, hD2, hO2, hG2⟩
  have D2 := Lib.hid hD2
  have O2 : Hid (Only F w w2 ∧ ∀ x ∈ F2, x ∈ F ∨ w.heap.size ≤ x) := ⟨O1.out.1.trans hO2 O1.out.2, fun x hx => by
    rcases hG2 x hx with h1 | h1
    · exact O1.out.2 x h1
    · exact .inr (Nat.le_trans O1.out.1.size h1)⟩
  obtain ⟨o1, o2, o3, o4, o5⟩ := makeO_fresh M log HL.out
  have MO : Hid ((makeO (Dsk.fresh M) 0 log).1 = 0 ∧ (makeO (Dsk.fresh M) 0 log).2.2.dur.length = M) := ⟨o1, by rw [o5]; simp⟩
  have MK := Lib.hid (make_any w2 d F2 (Dsk.fresh M) 0 log D2.out (by
    rw [HN.out]
    have := HL.out
    unfold checkErr
    rw [if_neg (by omega)]) (by simp [Dsk.fresh]))
  clear hD2 hO2 hG2 E2 S1 D1 O1 o1 o2 o3 o4 o5
  go_wp2_with fail
  refine MK.out.mono ?_
  rintro e w3 ⟨hok, _⟩
  obtain ⟨lb, G, F3, rfl, hL, hO, hG, hF⟩ := hok MO.out.1
  have L3 := Lib.hid hL
  have O3 : Hid (Only F w w3 ∧ (∀ x ∈ G, w.heap.size ≤ x) ∧ ∀ x ∈ F3, x ∈ F ∨ w.heap.size ≤ x) := ⟨O2.out.1.trans hO O2.out.2, fun x hx => Nat.le_trans O2.out.1.size (hG x hx), fun x hx => by
    rcases hF x hx with h1 | h1
    · exact O2.out.2 x h1
    · exact .inr (Nat.le_trans O2.out.1.size h1)⟩
  have NP := Lib.hid (newPager_any w3 d lb log)
  clear hok hL hO hG hF MK D2 O2
  go_wp2_with fail
  refine NP.out.mono ?_
  rintro e w4 ⟨rfl, hw4⟩
  have RES : Hid (MadePag w d F M log ⟨w3.heap.size + 1, d, lb, w3.heap.size, G, F3, (makeO (Dsk.fresh M) 0 log).2.1, (makeO (Dsk.fresh M) 0 log).2.2, log, M - log, false, fun _ => none⟩ w4) := by
    have hb : Below w3.heap.size w3 w4 := by rw [hw4]; exact ((Below.refl _ _).alloc (Nat.le_refl _) _).alloc (by simp) _
    have hs := O3.out.1.size
    have hlt : ∀ x ∈ G ++ F3, x < w3.heap.size := fun x hx => by
      rcases List.mem_append.1 hx with hx | hx
      · exact L3.out.glt x hx
      · exact L3.out.flt x hx
    refine ⟨⟨?_, L3.out.under hb, ?_, Nat.succ_ne_self _, fun hx => absurd (hlt _ hx) (Nat.not_lt.2 (Nat.le_succ _)), fun hx => absurd (hlt _ hx) (Nat.lt_irrefl _), ?_⟩, rfl, rfl, rfl, rfl, rfl, rfl, rfl, O3.out.1.under hb, fun x hx => ?_, O3.out.2.2⟩
    · rw [hw4]; exact Held.new _ _ _ (by simp)
    · rw [hw4]; exact (MapAt.made w3 rfl _).only ((Only.refl [] _).alloc _) (by simp)
    · show _ = log + (M - log)
      rw [MO.out.2]
      have := HL.out
      omega
    · rcases hx with rfl | rfl | hx
      · exact Nat.le_succ_of_le hs
      · exact hs
      · exact O3.out.2.1 x hx
  clear hw4
  go_wp2_with fail
  go_ret2
  exact ⟨_, rfl, RES.out⟩
end Go.Proofs.Ytaoldopkehbhkaa
