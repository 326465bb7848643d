/-
  wal: the contract of Sync. · wal: the contract of Trim.
-/
import Derived.Test.YtkajneeihhobhaaGreatMPack
namespace Go.Proofs.YtkajneeihhobhaaGreat
open Go.RowKit Go.Shelf Wal

theorem Env.start {w : World} {G F : List Nat} {b d : Nat} {s : LS} {m : Dsk.DM} (h : LD w b G s d F m) : Env w G F w b d s m [] G F :=
  ⟨h, Only.refl _ _, Grown.refl _ _, Grown.refl _ _, fun q hq => absurd hq (by simp), fun q hq => absurd hq (by simp)⟩

namespace Wal
/-- Sync, as its model. -/
def syncO (s : LS) (m : Dsk.DM) : Out :=
  let s1 : LS := { s with dead := s.dead || m.dead }
  if (s.dead || m.dead) = true then (10, s1, m) else
  if (s.synced : Int) = s.last then (0, s1, m) else
  let a := flO s1 m
  if a.1 ≠ 0 then a else tellO a.2.1 a.2.2 a.2.1.start a.2.1.first a.2.1.last.toNat
theorem flush_wait (m : Dsk.DM) : m.flush.wait.length ≤ m.wait.length := by
  unfold Dsk.DM.flush
  split
  · exact Nat.le_refl _
  · split
    · exact Nat.le_refl _
    · simp
end Wal

set_option maxRecDepth 100000 in
set_option maxHeartbeats 1600000 in
theorem sync_any (w : World) (b d : Nat) (s : LS) (G F : List Nat) (m : Dsk.DM) (h : LD w b G s d F m) (hs : s.Ok) (hw : m.wait.length ≤ 5600000000000) :
    Calls Tryz.prog 50 #[.pointer (some ⟨b, 0, none⟩)] w (LRes w b G d F (syncO s m)) := by
  have HW := Lib.hid hw
  have HS := Lib.hid hs
  have E1 : Hid (Env w G F w b d s m [] G F) := Env.start h
  have C1 := Lib.hid (alive_any w b d s G F m h)
  clear h hs hw
  go_enter Tryz.func50, Tryz.ntmps50
  go_wp2_with fail
  refine C1.out.mono ?_
  rintro e w2 ⟨rfl, ht⟩
  obtain ⟨G2, F2, e2, _⟩ := E1.out.turned ht
  have E2 := Lib.hid e2
  clear ht e2 E1 C1
  by_cases hd : (s.dead || m.dead) = true
  · have e1 : aliveErr s m = 10 := by unfold aliveErr; rw [if_pos hd]
    have EO : Hid (syncO s m = (10, { s with dead := s.dead || m.dead }, m)) := by show _ = _; unfold syncO; rw [if_pos hd]
    rw [e1]
    clear e1 hd
    go_wp2_with fail
    go_ret
    rw [EO.out]
    exact ⟨rfl, E2.out.done⟩
  · have e1 : aliveErr s m = 0 := by unfold aliveErr; rw [if_neg hd]
    rw [e1]
    obtain ⟨s1, hs1⟩ : ∃ s1 : LS, s1 = { s with dead := s.dead || m.dead } := ⟨_, rfl⟩
    have HS1 : Hid s1.Ok := by rw [hs1]; exact ⟨HS.out.frm, HS.out.ring, HS.out.ring0, HS.out.start, HS.out.first, HS.out.first1, HS.out.needs, HS.out.count⟩
    have EO : Hid (syncO s m = if (s1.synced : Int) = s1.last then (0, s1, m) else if (flO s1 m).1 ≠ 0 then flO s1 m else tellO (flO s1 m).2.1 (flO s1 m).2.2 s1.start s1.first s1.last.toNat) := by
      show _ = _
      rw [hs1]
      unfold syncO
      rw [if_neg hd]
      rfl
    rw [← hs1] at E2
    clear hs1 e1 hd HS
    obtain ⟨vn, hlog, _⟩ := E2.out.ld.log
    have c5 := hlog.c5
    have L1 := fun k : Nat => Lib.hid (last_any (w2.drewN k) b d vn s1 (hlog.only ((Only.refl [] w2).drewN k) (fun _ _ hx => by cases hx)) (by have := HS1.out.first; omega) (by have := HS1.out.count; omega))
    clear hlog
    obtain ⟨N, hN⟩ : ∃ N : Nat, s1.last = (N : Int) := ⟨s1.first + s1.needs.length - 1, by unfold LS.last; have := HS1.out.first1; omega⟩
    have hN9 : N ≤ 2305843009213693952 := by
      have h1 := HS1.out.first
      have h2 := HS1.out.count
      unfold LS.last at hN
      omega
    rw [hN] at EO
    rw [Int.toNat_natCast] at EO
    have HN := Lib.hid hN
    simp only [hN] at L1
    clear hN
    go_wp2_with fail
    go_quiet ((go_at_call 52; exact Calls.quiet_of (L1 _).out))
    obtain ⟨w3, hw3⟩ : ∃ w3, w3 = w2.drewN nq := ⟨_, rfl⟩
    have E3 : Hid (Env w G F w3 b d s1 m [] G2 F2) := by rw [hw3]; exact E2.out.drewN nq
    rw [← hw3]
    clear hw3 E2 L1 c5
    by_cases hsy : (s1.synced : Int) = (N : Int)
    · rw [if_pos hsy] at EO
      have hb : ((s1.synced : Int) == (N : Int)) = true := by simpa using hsy
      rw [hb]
      clear hb hsy
      go_wp2_with fail
      go_ret
      rw [EO.out]
      exact ⟨rfl, E3.out.done⟩
    · rw [if_neg hsy] at EO
      have hb : ((s1.synced : Int) == (N : Int)) = false := by simpa using hsy
      rw [hb]
      clear hb hsy
      have C2 := Lib.hid (lflush_o w3 b d s1 G2 F2 m E3.out.ld (by have := HW.out; omega))
      have FW : Hid ((flO s1 m).2.2.wait.length ≤ 5600000000000) := Nat.le_trans (flush_wait m) HW.out
      have FS : Hid ((flO s1 m).2.1.Ok ∧ (flO s1 m).2.1.last = (N : Int) ∧ (flO s1 m).2.1.start = s1.start ∧ (flO s1 m).2.1.first = s1.first) := ⟨⟨HS1.out.frm, HS1.out.ring, HS1.out.ring0, HS1.out.start, HS1.out.first, HS1.out.first1, HS1.out.needs, HS1.out.count⟩, HN.out, rfl, rfl⟩
      obtain ⟨o, ho⟩ : ∃ o, o = flO s1 m := ⟨_, rfl⟩
      rw [← ho] at C2 EO FW FS
      clear ho HN
      obtain ⟨z, s2, m2⟩ := o
      dsimp only at EO FW FS
      rw [← FS.out.2.2.1, ← FS.out.2.2.2] at EO
      go_wp2_with fail
      refine C2.out.mono ?_
      rintro e w4 ⟨rfl, ht⟩
      dsimp only at ht ⊢
      obtain ⟨G3, F3, e3, _⟩ := E3.out.turned ht
      have E4 := Lib.hid e3
      clear ht e3 C2 E3
      by_cases hz : z = 0
      · subst hz
        rw [if_neg (by simp)] at EO
        obtain ⟨vn, hlog, _⟩ := E4.out.ld.log
        have c3 := hlog.c3
        have c4 := hlog.c4
        have c5 := hlog.c5
        clear hlog
        go_wp2_with fail
        obtain ⟨w5, hw5⟩ : ∃ w5, w5 = w4.alloc (.cells #[.int .i64 (s2.start : Int), .int .i64 (s2.first : Int), .int .i64 (s2.synced : Int)] 113) := ⟨_, rfl⟩
        obtain ⟨q, hq⟩ : ∃ q, q = w4.heap.size := ⟨_, rfl⟩
        have B5 : Below w4.heap.size w4 w5 := by rw [hw5]; exact (Below.refl _ _).alloc (Nat.le_refl _) _
        have H5 : Hid (Held w5 q 113 #[.int .i64 (s2.start : Int), .int .i64 (s2.first : Int), .int .i64 (s2.synced : Int)]) := by rw [hw5]; exact Held.new _ _ _ hq
        have E5 : Hid (Env w G F w5 b d s2 m2 [q] G3 F3) := (E4.out.under B5).more H5.out.lt (E4.out.new_far (by omega))
        have QN : Hid (w.heap.size ≤ q) := by rw [hq]; exact E4.out.only.size
        rw [← hw5, ← hq]
        clear hw5 hq B5 E4 c3 c4 c5
        obtain ⟨vn, hlog, _⟩ := E5.out.ld.log
        have C3 := Lib.hid (last_any w5 b d vn s2 hlog (by have := FS.out.1.first; omega) (by have := FS.out.1.count; omega))
        rw [FS.out.2.1] at C3
        clear hlog
        refine C3.out.mono ?_
        rintro e w6 ⟨rfl, k6, hw6⟩
        have E6 : Hid (Env w G F w6 b d s2 m2 [q] G3 F3) := by rw [hw6]; exact E5.out.drewN k6
        have H6 : Hid (Held w6 q 113 #[.int .i64 (s2.start : Int), .int .i64 (s2.first : Int), .int .i64 (s2.synced : Int)]) := by rw [hw6]; exact H5.out.drewN k6
        clear hw6 C3 E5 H5
        have d0 := H6.out.cell 0
        have d1 := H6.out.cell 1
        have d2 := H6.out.cell 2
        have g2 := H6.out.frozen 2
        have E7 := Lib.hid (E6.out.own ((Only.refl [q] w6).setCell (p := ⟨q, 2, none⟩) (.inl (by simp)) (.int .i64 (N : Int))) (fun x hx => by
          obtain rfl : x = q := by simpa using hx
          exact ⟨by simp, QN.out⟩))
        have C4 := Lib.hid (tell_any (w6.setCell ⟨q, 2, none⟩ (.int .i64 (N : Int))) b d s2 G3 F3 m2 s2.start s2.first N E7.out.ld FS.out.1.frm FS.out.1.ring (by have := FS.out.1.start; have := FS.out.1.ring; omega) (by have := FS.out.1.first; omega) (by omega) (by have := FW.out; omega))
        go_wp2_with fail
        refine C4.out.mono ?_
        rintro e w8 ⟨rfl, ht⟩
        obtain ⟨G4, F4, e8, _⟩ := E7.out.turned ht
        have E8 := Lib.hid e8
        clear ht e8 C4 E7
        go_wp2_with fail
        go_ret
        rw [EO.out]
        exact ⟨rfl, E8.out.done⟩
      · have hz1 : (z == 0) = false := by simpa using hz
        have hz2 : (z != 0) = true := by simpa using hz
        rw [if_pos hz] at EO
        go_wp2_with fail
        go_ret
        rw [EO.out]
        exact ⟨rfl, E4.out.done⟩
end Go.Proofs.YtkajneeihhobhaaGreat

namespace Go.Proofs.YtkajneeihhobhaaGreat
open Go.RowKit Go.Shelf Wal

namespace Wal
/-- Trim, as its model. -/
def trimO (s : LS) (m : Dsk.DM) (upto : Int) : Out :=
  let s1 : LS := { s with dead := s.dead || m.dead }
  if (s.dead || m.dead) = true then (10, s1, m) else
  if upto < 0 ∨ (s.synced : Int) < upto then (1, s1, m) else
  if upto < (s.first : Int) then (0, s1, m) else
  let k := (upto - s.first + 1).toNat
  let a := tellO s1 m ((s.start + (s.needs.take k).sum) % s.ring) (upto + 1).toNat s.synced
  if a.1 ≠ 0 then a else (0, { a.2.1 with needs := s.needs.drop k }, a.2.2)
theorem tellO_needs (s : LS) (m : Dsk.DM) (a b c : Nat) : (tellO s m a b c).2.1.needs = s.needs := by
  unfold tellO
  dsimp only
  split
  · rfl
  · split <;> rfl
theorem needsV_take (l : List Nat) (k : Nat) : (needsV l).take k = needsV (l.take k) := by simp [needsV]
theorem needsV_drop (l : List Nat) (k : Nat) : (needsV l).drop k = needsV (l.drop k) := by simp [needsV]
end Wal
section
variable {w : World} {b d : Nat} {s : LS} {G F : List Nat} {m : Dsk.DM}
/-- Other needs are stored, that lie in the block of those before, or nowhere. -/
theorem LD.recut {v v' : Value} {l : List Nat} (h : LD w b G s d F m) (hv : w.cell? ⟨b, 6, none⟩ = some v) (hr : SRow w 3 1 v' l.length (needsV l)) (hb : ∀ y, v'.ownBlock = some y → v.ownBlock = some y) :
    LTurned w b G d F (w.setCell ⟨b, 6, none⟩ v') { s with needs := l } m := by
  obtain ⟨vn, hl, rfl⟩ := h.log
  have ev : vn = v := by have := hl.c6; rw [hv] at this; injection this with this; exact this.symm
  subst ev
  have hapart := h.apart
  have o2 : Only [b] w (w.setCell ⟨b, 6, none⟩ v') := (Only.refl _ w).setCell (.inl (by simp)) _
  have ne : ∀ i, i ≠ 6 → (⟨b, 6, none⟩ : Addr) ≠ ⟨b, i, none⟩ := fun i hi e => hi (congrArg Addr.off e).symm
  have hc : ∀ i, i ≠ 6 → (w.setCell ⟨b, 6, none⟩ v').cell? ⟨b, i, none⟩ = w.cell? ⟨b, i, none⟩ := fun i hi => World.cell?_setCell_other _ _ _ _ (ne i hi)
  have far : ∀ y, v'.ownBlock = some y → y ≠ b := fun y hy => hl.far y (hb y hy)
  refine ⟨logFoot b v', F, ⟨⟨v', ?_, rfl⟩, h.disk.only o2 (fun x hx hm => ?_), fun x hx hf2 => ?_⟩, o2.mono (fun x hx => .inl (List.mem_append.2 (.inl (by
    obtain rfl : x = b := by simpa using hx
    simp [logFoot])))), fun x hx => ?_, Grown.refl _ _⟩
  · exact ⟨(hc 0 (by omega)).trans hl.c0, (hc 1 (by omega)).trans hl.c1, (hc 2 (by omega)).trans hl.c2, (hc 3 (by omega)).trans hl.c3, (hc 4 (by omega)).trans hl.c4, (hc 5 (by omega)).trans hl.c5,
      World.cell?_setCell_same _ _ _ hl.c6, (hc 7 (by omega)).trans hl.c7, hl.tab.far o2.size (fun i hi => hc i (by omega)) (fun i => World.frozen?_setCell _ _ _ _), hr.only o2 (fun g hg => by simpa using far g hg), far⟩
  · obtain rfl : x = b := by simpa using hm
    exact hapart x (by simp [logFoot]) hx
  · rcases mem_logFoot.1 hx with rfl | hx
    · exact hapart _ (by simp [logFoot]) hf2
    · exact hapart x (mem_logFoot.2 (.inr (hb x hx))) hf2
  · rcases mem_logFoot.1 hx with rfl | hx
    · exact .inl (by simp [logFoot])
    · exact .inl (mem_logFoot.2 (.inr (hb x hx)))
end

set_option maxRecDepth 100000 in
set_option maxHeartbeats 1600000 in
theorem trim_any (w : World) (b d : Nat) (s : LS) (G F : List Nat) (m : Dsk.DM) (upto : Int) (h : LD w b G s d F m) (hs : s.Ok) (hsl : (s.synced : Int) ≤ s.last) (hw : m.wait.length ≤ 5600000000000) :
    Calls Tryz.prog 83 #[.pointer (some ⟨b, 0, none⟩), .int .i64 upto] w (LRes w b G d F (trimO s m upto)) := by
  have HW := Lib.hid hw
  have HS := Lib.hid hs
  have E1 : Hid (Env w G F w b d s m [] G F) := Env.start h
  have C1 := Lib.hid (alive_any w b d s G F m h)
  have hsy : s.synced ≤ 2305843009213693952 := by
    have h1 := hs.first
    have h2 := hs.count
    unfold LS.last at hsl
    omega
  clear h hs hw
  go_enter Tryz.func83, Tryz.ntmps83
  go_wp2_with fail
  refine C1.out.mono ?_
  rintro e w2 ⟨rfl, ht⟩
  obtain ⟨G2, F2, e2, _⟩ := E1.out.turned ht
  have E2 := Lib.hid e2
  clear ht e2 E1 C1
  by_cases hd : (s.dead || m.dead) = true
  · have e1 : aliveErr s m = 10 := by unfold aliveErr; rw [if_pos hd]
    have EO : Hid (trimO s m upto = (10, { s with dead := s.dead || m.dead }, m)) := by show _ = _; unfold trimO; rw [if_pos hd]
    rw [e1]
    clear e1 hd
    go_wp2_with fail
    go_ret
    rw [EO.out]
    exact ⟨rfl, E2.out.done⟩
  · have e1 : aliveErr s m = 0 := by unfold aliveErr; rw [if_neg hd]
    rw [e1]
    obtain ⟨s1, hs1⟩ : ∃ s1 : LS, s1 = { s with dead := s.dead || m.dead } := ⟨_, rfl⟩
    have HS1 : Hid s1.Ok := by rw [hs1]; exact ⟨HS.out.frm, HS.out.ring, HS.out.ring0, HS.out.start, HS.out.first, HS.out.first1, HS.out.needs, HS.out.count⟩
    have HL1 : Hid ((s1.synced : Int) ≤ s1.last ∧ s1.synced ≤ 2305843009213693952) := by rw [hs1]; exact ⟨hsl, hsy⟩
    have EO : Hid (trimO s m upto = if upto < 0 ∨ (s1.synced : Int) < upto then (1, s1, m) else if upto < (s1.first : Int) then (0, s1, m) else
      if (tellO s1 m ((s1.start + (s1.needs.take (upto - s1.first + 1).toNat).sum) % s1.ring) (upto + 1).toNat s1.synced).1 ≠ 0 then tellO s1 m ((s1.start + (s1.needs.take (upto - s1.first + 1).toNat).sum) % s1.ring) (upto + 1).toNat s1.synced else
        (0, { (tellO s1 m ((s1.start + (s1.needs.take (upto - s1.first + 1).toNat).sum) % s1.ring) (upto + 1).toNat s1.synced).2.1 with needs := s1.needs.drop (upto - s1.first + 1).toNat }, (tellO s1 m ((s1.start + (s1.needs.take (upto - s1.first + 1).toNat).sum) % s1.ring) (upto + 1).toNat s1.synced).2.2)) := by
      show _ = _
      rw [hs1]
      unfold trimO
      rw [if_neg hd]
    rw [← hs1] at E2
    clear hs1 e1 hd HS hsl hsy
    obtain ⟨vn, hlog, _⟩ := E2.out.ld.log
    have c2 := hlog.c2
    have c3 := hlog.c3
    have c4 := hlog.c4
    have c5 := hlog.c5
    have c6 := hlog.c6
    have HR := Lib.hid hlog.row
    clear hlog
    by_cases hbad : upto < 0 ∨ (s1.synced : Int) < upto
    · rw [if_pos hbad] at EO
      rcases Int.lt_or_le upto 0 with h0 | h0
      · have hb : decide (upto < 0) = true := decide_eq_true h0
        clear hbad h0
        go_wp2_with fail
        go_ret
        rw [EO.out]
        exact ⟨rfl, E2.out.done⟩
      · have hb : decide (upto < 0) = false := decide_eq_false (by omega)
        have hb2 : decide ((s1.synced : Int) < upto) = true := decide_eq_true (by omega)
        clear hbad h0
        go_wp2_with fail
        go_ret
        rw [EO.out]
        exact ⟨rfl, E2.out.done⟩
    · rw [if_neg hbad] at EO
      have h0 : 0 ≤ upto := by omega
      have h1 : upto ≤ (s1.synced : Int) := by omega
      have hb : decide (upto < 0) = false := decide_eq_false (by omega)
      have hb2 : decide ((s1.synced : Int) < upto) = false := decide_eq_false (by omega)
      clear hbad
      by_cases hf : upto < (s1.first : Int)
      · rw [if_pos hf] at EO
        have hb3 : decide (upto < (s1.first : Int)) = true := decide_eq_true hf
        clear h0 h1 hf
        go_wp2_with fail
        go_ret
        rw [EO.out]
        exact ⟨rfl, E2.out.done⟩
      · rw [if_neg hf] at EO
        have hb3 : decide (upto < (s1.first : Int)) = false := decide_eq_false hf
        obtain ⟨k, ek⟩ : ∃ k : Nat, upto - (s1.first : Int) + 1 = (k : Int) := ⟨(upto - (s1.first : Int) + 1).toNat, by omega⟩
        have k1 : 1 ≤ k := by omega
        have hkn : k ≤ s1.needs.length := by
          have h2 := HL1.out.1
          unfold LS.last at h2
          omega
        obtain ⟨u, eu⟩ : ∃ u : Nat, upto + 1 = (u : Int) := ⟨(upto + 1).toNat, by omega⟩
        have hu9 : u ≤ 2305843009213693953 := by have := HL1.out.2; omega
        rw [ek, eu, Int.toNat_natCast, Int.toNat_natCast] at EO
        have hr0 : Hid (0 < s1.ring ∧ s1.ring ≤ 4096 ∧ s1.start ≤ 4096 ∧ (s1.needs.take k).sum ≤ 4096) := by
          have h2 := HS1.out.ring0
          have h3 := HS1.out.ring
          have h4 := HS1.out.start
          have h5 := HS1.out.needs
          have h6 := sum_take_le s1.needs k
          exact ⟨h2, h3, by omega, by omega⟩
        have hf1 : (s1.first : Int) ≤ 2305843009213693952 := by have := HL1.out.2; omega
        have hu1 : upto ≤ 2305843009213693952 := by have := HL1.out.2; omega
        obtain ⟨g, off, cap, hvn, hnc, hcm⟩ : ∃ g off cap, vn = .slice (some ⟨g, off, none⟩) s1.needs.length cap ∧ s1.needs.length ≤ cap ∧ cap ≤ maxLen := by
          rcases HR.out.2 with ⟨_, h9⟩ | ⟨g, off, cap, cur, mk, h9, _, _, h10, h11, _⟩
          · omega
          · exact ⟨g, off, cap, h9, h10, h11⟩
        subst hvn
        go_upto_region 10 with fail
        obtain ⟨w5, hw5⟩ : ∃ w5, w5 = w2.alloc (.cells #[.int .i64 (s1.start : Int), .int .i64 (s1.first : Int), .int .i64 (s1.synced : Int)] 113) := ⟨_, rfl⟩
        obtain ⟨q, hq⟩ : ∃ q, q = w2.heap.size := ⟨_, rfl⟩
        have B5 : Below w2.heap.size w2 w5 := by rw [hw5]; exact (Below.refl _ _).alloc (Nat.le_refl _) _
        have H5 : Hid (Held w5 q 113 #[.int .i64 (s1.start : Int), .int .i64 (s1.first : Int), .int .i64 (s1.synced : Int)]) := by rw [hw5]; exact Held.new _ _ _ hq
        have E5 : Hid (Env w G F w5 b d s1 m [q] G2 F2) := (E2.out.under B5).more H5.out.lt (E2.out.new_far (by omega))
        have QN : Hid (w.heap.size ≤ q) := by rw [hq]; exact E2.out.only.size
        have HR5 : Hid (SRow w5 3 1 (.slice (some ⟨g, off, none⟩) s1.needs.length cap) s1.needs.length (needsV s1.needs)) := HR.out.only (Only.of_below (F := []) B5) (fun _ _ hx => by cases hx)
        have x2 : w5.cell? ⟨b, 2, none⟩ = some (.int .i64 (s1.ring : Int)) := (B5.cell (p := ⟨b, 2, none⟩) E2.out.ld.blt).trans c2
        have x3 : w5.cell? ⟨b, 3, none⟩ = some (.int .i64 (s1.start : Int)) := (B5.cell (p := ⟨b, 3, none⟩) E2.out.ld.blt).trans c3
        have x6 : w5.cell? ⟨b, 6, none⟩ = some (.slice (some ⟨g, off, none⟩) s1.needs.length cap) := (B5.cell (p := ⟨b, 6, none⟩) E2.out.ld.blt).trans c6
        have SK : Hid (SRow w5.drew 3 1 (.slice (some ⟨g, off, none⟩) k cap) (s1.needs.take k).length (needsV (s1.needs.take k))) := by
          have h2 := (HR5.out.only ((Only.refl [] w5).drew) (fun _ _ hx => by cases hx)).head hkn
          rw [Nat.mul_one, needsV_take] at h2
          rw [List.length_take, Nat.min_eq_left hkn]
          exact h2
        have C3 := Lib.hid (total_any w5.drew _ _ SK.out (by have := hr0.out.2.2.2; omega) (by rw [List.length_take, Nat.min_eq_left hkn]; have := HS1.out.count; omega))
        rw [← hw5, ← hq]
        clear hw5 hq B5 E2 HR SK c2 c3 c4 c5 c6
        obtain ⟨T, hT⟩ : ∃ T, T = (s1.needs.take k).sum := ⟨_, rfl⟩
        rw [← hT] at C3 EO hr0
        clear hT
        have hkc : k ≤ cap := by omega
        have hrz : ¬ s1.ring = 0 := by have := hr0.out.1; omega
        have hrz' : ¬ ((s1.ring : Int) = 0) := by omega
        have e2 : ((s1.start : Int) + (T : Int)).tmod (s1.ring : Int) = (((s1.start + T) % s1.ring : Nat) : Int) := by
          rw [Int.tmod_eq_emod_of_nonneg (by omega)]
          rfl
        have e1 : IntKind.i64.wrap ((s1.start : Int) + (T : Int)) = (s1.start : Int) + (T : Int) := by have := hr0.out; rw [IntKind.wrap_i64]; omega
        have hm : (s1.start + T) % s1.ring < s1.ring := Nat.mod_lt _ hr0.out.1
        obtain ⟨X, hX⟩ : ∃ X, X = (s1.start + T) % s1.ring := ⟨_, rfl⟩
        rw [← hX] at e2 hm EO
        have hX9 : X ≤ 4096 := by have := hr0.out.2.1; omega
        clear hX
        have QB : Hid (q ≠ b) := fun e => E5.out.far q (by simp) (by rw [e]; exact List.mem_append.2 (.inl E5.out.ld.mem))
        have z0 := H5.out.drew.cell 0
        have z1 := H5.out.drew.frozen 0
        refine wp_region_noPanic ?_
        refine wp_region_held_drew (S := fun w' => w'.cell? ⟨b, 2, none⟩ = some (.int .i64 (s1.ring : Int)) ∧ w'.cell? ⟨b, 3, none⟩ = some (.int .i64 (s1.start : Int)) ∧ w'.cell? ⟨b, 6, none⟩ = some (.slice (some ⟨g, off, none⟩) s1.needs.length cap)) (by kernel_rfl) ⟨x2, x3, x6⟩ (fun hHeld => ?_)
        refine take_ (i := 0) (v := ?_) 44 rfl rfl (by kernel_rfl) (by kernel_rfl) (by kernel_rfl) (fun _ _ _ h => h) (Or.inl ⟨by rfl, ?_⟩) (by assumption) ?_
        rotate_left
        · (intro wS hSw; (try dsimp only at hSw); go_simp; try with_reducible rfl)
        simp only [Act.put, List.setIfInBounds_toArray, List.set_cons_zero, List.set_cons_succ]
        refine take_ (i := 1) (v := ?_) 45 rfl rfl (by kernel_rfl) (by kernel_rfl) (by kernel_rfl) (fun _ _ _ h => h) (Or.inl ⟨by rfl, ?_⟩) (by assumption) ?_
        rotate_left
        · (intro wS hSw; (try dsimp only at hSw); go_simp; try with_reducible rfl)
        simp only [Act.put, List.setIfInBounds_toArray, List.set_cons_zero, List.set_cons_succ]
        refine take_ (i := 2) (v := ?_) 46 rfl rfl (by kernel_rfl) (by kernel_rfl) (by kernel_rfl) (fun _ _ _ h => h) (Or.inl ⟨by rfl, ?_⟩) (by assumption) ?_
        rotate_left
        · (intro wS hSw; (try dsimp only at hSw); go_simp; try with_reducible rfl)
        simp only [Act.put, List.setIfInBounds_toArray, List.set_cons_zero, List.set_cons_succ]
        refine take_ (i := 3) (v := ?_) 47 rfl rfl (by kernel_rfl) (by kernel_rfl) (by kernel_rfl) (fun _ _ _ h => h) (Or.inl ⟨by rfl, ?_⟩) (by assumption) ?_
        rotate_left
        · (intro wS hSw; (try dsimp only at hSw); go_simp; try with_reducible rfl)
        simp only [Act.put, List.setIfInBounds_toArray, List.set_cons_zero, List.set_cons_succ]
        refine take_ (i := 4) (v := ?_) 48 rfl rfl (by kernel_rfl) (by kernel_rfl) (by kernel_rfl) (fun _ _ _ h => h) (Or.inl ⟨by rfl, ?_⟩) (by assumption) ?_
        rotate_left
        · (intro wS hSw; (try dsimp only at hSw); go_simp; try with_reducible rfl)
        simp only [Act.put, List.setIfInBounds_toArray, List.set_cons_zero, List.set_cons_succ]
        refine take_ (i := 5) (v := ?_) 49 rfl rfl (by kernel_rfl) (by kernel_rfl) (by kernel_rfl) (fun _ _ _ h => h) (Or.inl ⟨by rfl, ?_⟩) (by assumption) ?_
        rotate_left
        · (intro wS hSw; (try dsimp only at hSw); go_simp; try with_reducible rfl)
        simp only [Act.put, List.setIfInBounds_toArray, List.set_cons_zero, List.set_cons_succ]
        refine take_ (i := 6) (v := ?_) 50 rfl rfl (by kernel_rfl) (by kernel_rfl) (by kernel_rfl) (fun _ _ _ h => h) (Or.inl ⟨by rfl, ?_⟩) (by assumption) ?_
        rotate_left
        · (intro wS hSw; (try dsimp only at hSw); go_simp; try with_reducible rfl)
        simp only [Act.put, List.setIfInBounds_toArray, List.set_cons_zero, List.set_cons_succ]
        refine take_ (i := 7) (v := ?_) 51 rfl rfl (by kernel_rfl) (by kernel_rfl) (by kernel_rfl) (fun _ _ _ h => h) (Or.inl ⟨by rfl, ?_⟩) (by assumption) ?_
        rotate_left
        · (intro wS hSw; (try dsimp only at hSw); go_simp; try with_reducible rfl)
        simp only [Act.put, List.setIfInBounds_toArray, List.set_cons_zero, List.set_cons_succ]
        refine take_ (i := 8) (v := ?_) 52 rfl rfl (by kernel_rfl) (by kernel_rfl) (by kernel_rfl) (fun _ _ _ h => h) (Or.inl ⟨by rfl, ?_⟩) (by assumption) ?_
        rotate_left
        · (intro wS hSw; (try dsimp only at hSw); go_simp; try with_reducible rfl)
        simp only [Act.put, List.setIfInBounds_toArray, List.set_cons_zero, List.set_cons_succ]
        refine take_ (i := 9) (v := ?_) 53 rfl rfl (by kernel_rfl) (by kernel_rfl) (by kernel_rfl) (fun _ _ _ h => h) (Or.inl ⟨by rfl, ?_⟩) (by assumption) ?_
        rotate_left
        · (intro wS hSw; (try dsimp only at hSw); go_simp; try with_reducible rfl)
        simp only [Act.put, List.setIfInBounds_toArray, List.set_cons_zero, List.set_cons_succ]
        refine take_ (i := 10) (v := ?_) 54 rfl rfl (by kernel_rfl) (by kernel_rfl) (by kernel_rfl) (fun _ _ _ h => h) (Or.inl ⟨by rfl, ?_⟩) (by assumption) ?_
        rotate_left
        · (intro wS hSw; (try dsimp only at hSw); go_simp; try with_reducible rfl)
        simp only [Act.put, List.setIfInBounds_toArray, List.set_cons_zero, List.set_cons_succ]
        refine take_ (i := 13) (v := ?_) 57 rfl rfl (by kernel_rfl) (by kernel_rfl) (by kernel_rfl) (fun _ _ _ h => h) (Or.inl ⟨by rfl, ?_⟩) (by assumption) ?_
        rotate_left
        · (intro wS hSw; (try dsimp only at hSw); go_simp; try with_reducible rfl)
        simp only [Act.put, List.setIfInBounds_toArray, List.set_cons_zero, List.set_cons_succ]
        refine take_ (i := 14) (v := ?_) 58 rfl rfl (by kernel_rfl) (by kernel_rfl) (by kernel_rfl) (fun _ _ _ h => h) (Or.inl ⟨by rfl, ?_⟩) (by assumption) ?_
        rotate_left
        · (intro wS hSw; (try dsimp only at hSw); go_simp; try with_reducible rfl)
        simp only [Act.put, List.setIfInBounds_toArray, List.set_cons_zero, List.set_cons_succ]
        refine take_ (i := 15) (v := ?_) 59 rfl rfl (by kernel_rfl) (by kernel_rfl) (by kernel_rfl) (fun _ _ _ h => h) (Or.inl ⟨by rfl, ?_⟩) (by assumption) ?_
        rotate_left
        · (intro wS hSw; (try dsimp only at hSw); go_simp; try with_reducible rfl)
        simp only [Act.put, List.setIfInBounds_toArray, List.set_cons_zero, List.set_cons_succ]
        refine take_ (i := 16) (v := ?_) 60 rfl rfl (by kernel_rfl) (by kernel_rfl) (by kernel_rfl) (fun _ _ _ h => h) (Or.inl ⟨by rfl, ?_⟩) (by assumption) ?_
        rotate_left
        · (intro wS hSw; (try dsimp only at hSw); go_simp; try with_reducible rfl)
        simp only [Act.put, List.setIfInBounds_toArray, List.set_cons_zero, List.set_cons_succ]
        refine one_ (i := 11) _ (by kernel_rfl) rfl (fun K hK => ?_)
        go_simp
        refine C3.out.mono ?_
        rintro e w' ⟨rfl, rfl⟩
        go_wp2_with fail
        refine hK.out _ _ ⟨x2, x3, x6⟩ (fun hHeld => ?_)
        clear hK K
        refine take_ (i := 12) (v := ?_) 56 rfl rfl (by kernel_rfl) (by kernel_rfl) (by kernel_rfl) (fun _ _ _ h => h) (Or.inl ⟨by rfl, ?_⟩) (by assumption) ?_
        rotate_left
        · (intro wS hSw; (try dsimp only at hSw); go_simp; try with_reducible rfl)
        simp only [Act.put, List.setIfInBounds_toArray, List.set_cons_zero, List.set_cons_succ]
        refine take_ (i := 17) (v := ?_) 61 rfl rfl (by kernel_rfl) (by kernel_rfl) (by kernel_rfl) (fun _ _ _ h => h) (Or.inl ⟨by rfl, ?_⟩) (by assumption) ?_
        rotate_left
        · (intro wS hSw; (try dsimp only at hSw); go_simp; try with_reducible rfl)
        simp only [Act.put, List.setIfInBounds_toArray, List.set_cons_zero, List.set_cons_succ]
        refine take_ (i := 18) (v := ?_) 62 rfl rfl (by kernel_rfl) (by kernel_rfl) (by kernel_rfl) (fun _ _ _ h => h) (Or.inl ⟨by rfl, ?_⟩) (by assumption) ?_
        rotate_left
        · (intro wS hSw; (try dsimp only at hSw); go_simp; try with_reducible rfl)
        simp only [Act.put, List.setIfInBounds_toArray, List.set_cons_zero, List.set_cons_succ]
        refine one_ (i := 19) _ (by kernel_rfl) rfl (fun K hK => ?_)
        go_simp
        refine hK.out _ _ ⟨(World.cell?_setCell_other _ _ _ _ (fun e => QB.out (congrArg Addr.block e))).trans x2, (World.cell?_setCell_other _ _ _ _ (fun e => QB.out (congrArg Addr.block e))).trans x3, (World.cell?_setCell_other _ _ _ _ (fun e => QB.out (congrArg Addr.block e))).trans x6⟩ (fun hHeld => ?_)
        clear hK K
        refine wpAnyH_done (by kernel_rfl) ?_ _
        refine NoPanic.normal ?_
        have H6 : Hid (Held ((w5.setCell ⟨q, 0, none⟩ (.int .i64 (X : Int))).drew) q 113 #[.int .i64 (X : Int), .int .i64 (s1.first : Int), .int .i64 (s1.synced : Int)]) := (H5.out.set_ 0 _).drew
        have E7 : Hid (Env w G F (((w5.setCell ⟨q, 0, none⟩ (.int .i64 (X : Int))).drew).setCell ⟨q, 1, none⟩ (.int .i64 (u : Int))) b d s1 m [q] G2 F2) := E5.out.own ((((Only.refl [q] w5).setCell (p := ⟨q, 0, none⟩) (.inl (by simp)) (.int .i64 (X : Int))).drew).setCell (p := ⟨q, 1, none⟩) (.inl (by simp)) (.int .i64 (u : Int))) (fun x hx => by
          obtain rfl : x = q := by simpa using hx
          exact ⟨by simp, QN.out⟩)
        generalize (w5.setCell ⟨q, 0, none⟩ (.int .i64 (X : Int))).drew = w6 at *
        have H7 := Lib.hid (H6.out.set_ 1 (.int .i64 (u : Int)))
        have y0 := H6.out.cell 0
        have y1 := H6.out.cell 1
        have y2 := H6.out.cell 2
        have g1 := H6.out.frozen 1
        have C4 := Lib.hid (tell_any (w6.setCell ⟨q, 1, none⟩ (.int .i64 (u : Int))) b d s1 G2 F2 m X u s1.synced E7.out.ld HS1.out.frm HS1.out.ring (by omega) (by omega) (by have := HL1.out.2; omega) (by have := HW.out; omega))
        have NE := Lib.hid (tellO_needs s1 m X u s1.synced)
        obtain ⟨o, ho⟩ : ∃ o, o = tellO s1 m X u s1.synced := ⟨_, rfl⟩
        rw [← ho] at C4 EO NE
        clear ho C3 H5 E5 x2 x3 x6 hHeld z0 z1 e1 e2 hrz hrz'
        obtain ⟨z, s2, m2⟩ := o
        dsimp only at EO NE
        go_wp2_with fail
        refine C4.out.mono ?_
        rintro e w8 ⟨rfl, ht⟩
        dsimp only at ht ⊢
        obtain ⟨G3, F3, e8, _⟩ := E7.out.turned ht
        have E8 := Lib.hid e8
        clear ht e8 C4 E7
        by_cases hz : z = 0
        · subst hz
          rw [if_neg (by simp)] at EO
          have hne : s2.needs = s1.needs := NE.out
          obtain ⟨vy, hlog, hG3⟩ := E8.out.ld.log
          have k6 := hlog.c6
          have f6 := hlog.tab.fr 6
          have HR8 := Lib.hid hlog.row
          clear hlog hG3
          obtain ⟨g', off', cap', hvn, hnc', hcm'⟩ : ∃ g off cap, vy = .slice (some ⟨g, off, none⟩) s1.needs.length cap ∧ s1.needs.length ≤ cap ∧ cap ≤ maxLen := by
            rcases HR8.out.2 with ⟨_, h9⟩ | ⟨g, off, cap, cur, mk, h9, _, _, h10, h11, _⟩
            · rw [hne] at h9; omega
            · rw [hne] at h9 h10; exact ⟨g, off, cap, h9, h10, h11⟩
          subst hvn
          rw [hne] at HR8
          have hkc' : k ≤ cap' := by omega
          have KY := Lib.hid k6
          have DR : Hid ((s1.needs.drop k).length = s1.needs.length - k) := List.length_drop
          by_cases hfull : k = cap'
          · have TL : Hid (SRow w8 3 1 (.slice (some ⟨g', off', none⟩) 0 0) (s1.needs.drop k).length (needsV (s1.needs.drop k))) := by
              have e : s1.needs.drop k = [] := List.drop_of_length_le (by omega)
              rw [e]
              exact HR8.out.tail'
            have RC := Lib.hid (LD.recut E8.out.ld KY.out TL.out (fun y hy => by simpa [Value.ownBlock] using hy))
            go_wp2_with fail
            go_ret
            rw [EO.out]
            obtain ⟨G4, F4, e9, _⟩ := E8.out.turned RC.out
            exact ⟨rfl, e9.done⟩
          · have TL : Hid (SRow w8 3 1 (.slice (some ⟨g', off' + k, none⟩) (s1.needs.length - k) (cap' - k)) (s1.needs.drop k).length (needsV (s1.needs.drop k))) := by
              have h2 := HR8.out.tail hkn
              rw [Nat.mul_one, needsV_drop] at h2
              rw [DR.out]
              exact h2
            have RC := Lib.hid (LD.recut E8.out.ld KY.out TL.out (fun y hy => by simpa [Value.ownBlock] using hy))
            go_wp2_with fail
            go_ret
            rw [EO.out]
            obtain ⟨G4, F4, e9, _⟩ := E8.out.turned RC.out
            exact ⟨rfl, e9.done⟩
        · have hz1 : (z == 0) = false := by simpa using hz
          have hz2 : (z != 0) = true := by simpa using hz
          rw [if_pos hz] at EO
          go_wp2_with fail
          go_ret
          rw [EO.out]
          exact ⟨rfl, E8.out.done⟩
end Go.Proofs.YtkajneeihhobhaaGreat
