/-
  docketlaw03: ring; one round of WalRound in the model; a log that Open gives, all of the call's own.
-/
import Derived.Test.YtgbilhfpogdfeaaMTxt
namespace Go.Proofs.Ytgbilhfpogdfeaa
open Go.RowKit Wal

/-- How many sectors a statement's log has. -/
def ringN (n : Nat) : Nat := 2 + n % 30
theorem ringN_le (n : Nat) : 2 ≤ ringN n ∧ ringN n ≤ 31 := by unfold ringN; omega
theorem ring_any (w : World) (n : Nat) (hn : n < 256) : Calls Try.prog 6 #[.int .u8 (n : Int)] w fun e w' => e = .returned (.int .i64 (ringN n : Nat)) ∧ w = w' := by
  have e1 : ((n : Int)).tmod 30 = ((n % 30 : Nat) : Int) := by
    rw [Int.tmod_eq_emod_of_nonneg (by omega)]
    rfl
  have h1 : n % 30 < 30 := Nat.mod_lt _ (by omega)
  have ER : Hid (((ringN n : Nat) : Int) = 2 + ((n % 30 : Nat) : Int)) := by show _ = _; unfold ringN; omega
  go_enter Try.func6, Try.ntmps6
  go_wp2
  go_ret
  have e2 : ((n % 30 : Nat) : Int) = (n : Int) % 30 := by omega
  rw [ER.out, e2]
  exact ⟨rfl, rfl⟩
theorem clamp_ring (n : Nat) : clampN ((ringN n : Nat) : Int) = ringN n := by
  have h := ringN_le n
  unfold clampN
  split
  · omega
  · split
    · omega
    · omega
theorem clamp_of {x : Nat} (h1 : 1 ≤ x) (h2 : x ≤ 4096) : clampN (x : Int) = x := by
  unfold clampN
  split
  · omega
  · split
    · omega
    · omega

namespace Wal
/-- One round: appended, synced, trimmed. -/
theorem round {s : LS} {m : Dsk.DM} (h : Wal.Inv s m []) (hf : m.fuel = -1) (hw : m.wait.length = 0) (hfi : s.first + 1 ≤ 1152921504606846976) {b : List (List Nat)} (hg : Wal.good b = true) (hb : ∀ r ∈ b, ∀ x ∈ r, x < 256) (hr : need b ≤ s.ring) :
    ∃ s2 m2 s3 m3 s4 m4, appendO s m b = ((s.first : Int), 0, s2, m2) ∧ s2.Ok ∧ m2.wait.length ≤ 5600000000000 ∧ syncO s2 m2 = (0, s3, m3) ∧ s3.Ok ∧ m3.wait.length ≤ 5600000000000 ∧ (s3.synced : Int) ≤ s3.last ∧ trimO s3 m3 (s.first : Int) = (0, s4, m4) ∧
      Wal.Inv s4 m4 [] ∧ s4.frm = s.frm ∧ s4.ring = s.ring ∧ s4.first = s.first + 1 ∧ s4.synced = s.first ∧ s4.needs = [] ∧ m4.fuel = -1 ∧ m4.wait.length = 0 ∧ m4.dur.length = m.dur.length := by
  have hn9 := need_of_good hg
  have hl := h.last
  have hnd := h.needs
  rcases h.append hg hb (by unfold LS.room; rw [hnd]; simp; omega) (by omega) with ⟨m2, e2, i2, d2, f2, w2, _⟩ | ⟨_, _, _, hf2, _⟩
  rotate_left
  · exact absurd hf hf2
  rcases i2.sync with ⟨m3, e3, i3, w3, d3, f3, _⟩ | ⟨_, _, _, hf3, _⟩
  rotate_left
  · rw [f2, hf] at hf3
    exact absurd rfl hf3
  have f2' : m2.fuel = -1 := by rw [f2, hf]; rfl
  have f3' : m3.fuel = -1 := by
    rw [f3, f2']
    split <;> rfl
  have hl3 := i3.last
  rcases i3.trim (k := 1) (by omega) (by show s.first + 1 ≤ s.first + ([] ++ [b]).length - 1 + 1; simp) (by show s.first + 1 ≤ _; omega) with ⟨m4, s4, e4, es4, i4, w4, d4, f4⟩ | ⟨_, _, _, hf4, _⟩
  rotate_left
  · exact absurd f3' hf4
  have hu : ((s.first : Int) + ((1 : Nat) : Int) - 1) = (s.first : Int) := by omega
  have e4' : trimO { s with needs := s.needs ++ [need b], synced := s.first + ([] ++ [b]).length - 1 } m3 (s.first : Int) = (0, s4, m4) := by
    rw [← hu]
    exact e4
  have e2' := e2
  rw [show s.last + 1 = (s.first : Int) by rw [hl]; simp] at e2'
  refine ⟨_, m2, _, m3, s4, m4, e2', i2.ok, by rw [w2, hw]; omega, e3, i3.ok, by rw [w2, hw] at w3; omega, ?_, e4', i4, by rw [es4], by rw [es4], by rw [es4], ?_, ?_, by rw [f4, f3']; rfl, by rw [w4]; rfl, by rw [d4, d3, d2]⟩
  · rw [hl3]
    show ((s.first + ([] ++ [b]).length - 1 : Nat) : Int) ≤ ((s.first + ([] ++ [b]).length : Nat) : Int) - 1
    simp
  · rw [es4]
    show s.first + ([] ++ [b]).length - 1 = s.first
    simp
  · rw [es4]
    show (s.needs ++ [need b]).drop 1 = []
    rw [hnd]
    rfl
end Wal

namespace Wal
theorem tellO_wait (s : LS) (m : Dsk.DM) (a b c : Nat) : (tellO s m a b c).2.2.wait.length ≤ m.wait.length + 1 := by
  unfold tellO
  dsimp only
  have h1 := write_wait m (s.frm : Int) (told s.frm s.ring a b c)
  split
  · exact h1
  · split
    · exact Nat.le_trans (flush_wait _) h1
    · exact Nat.le_trans (flush_wait _) h1
theorem syncO_wait (s : LS) (m : Dsk.DM) : (syncO s m).2.2.wait.length ≤ m.wait.length + 1 := by
  unfold syncO
  dsimp only
  split
  · show m.wait.length ≤ _; omega
  · split
    · show m.wait.length ≤ _; omega
    · have h1 := flush_wait m
      split
      · exact Nat.le_trans h1 (Nat.le_succ _)
      · refine Nat.le_trans (tellO_wait _ _ _ _ _) ?_
        show m.flush.wait.length + 1 ≤ _
        omega
theorem trimO_wait (s : LS) (m : Dsk.DM) (u : Int) : (trimO s m u).2.2.wait.length ≤ m.wait.length + 1 := by
  unfold trimO
  dsimp only
  split
  · show m.wait.length ≤ _; omega
  · split
    · show m.wait.length ≤ _; omega
    · split
      · show m.wait.length ≤ _; omega
      · split
        · exact tellO_wait _ _ _ _ _
        · exact tellO_wait _ _ _ _ _
theorem appendO_wait (s : LS) (m : Dsk.DM) (b : List (List Nat)) : (appendO s m b).2.2.2.wait.length ≤ m.wait.length + need b := by
  unfold appendO
  dsimp only
  split
  · show m.wait.length ≤ _; omega
  · split
    · show m.wait.length ≤ _; omega
    · split
      · show m.wait.length ≤ _; omega
      · have h1 := writesO_wait ((List.range (need b)).map (chunk (packed (LS.last { s with dead := s.dead || m.dead } + 1).toNat b))) s.needs.sum { s with dead := s.dead || m.dead } m
        rw [List.length_map, List.length_range] at h1
        split
        · exact h1
        · exact h1
end Wal

/-- Open gives a log of the call's own. -/
theorem Opened.own {w0 w w' : World} {d : Nat} {F : List Nat} {s : LS} {m m0 : Dsk.DM} {Bs : List (List (List Nat))} {e : Ending} (h : Opened w d F s m Bs e w') (hl : Lives w0 w d F m0) :
    ∃ b v vs G F', e = .returned (.tuple #[.pointer (some ⟨b, 0, none⟩), v, .int .i64 0]) ∧ LLives w0 w' b G s d F' m ∧ Only F w w' ∧ (∀ x ∈ G ++ F', x ∈ F ∨ w.heap.size ≤ x) ∧ RowsAt w' w.heap.size v vs Bs ∧ (∀ x ∈ rowsFoot v vs, x ∉ G ++ F') := by
  obtain ⟨b, v, vs, G, F', he, hld, honly, hG, hF, hrows, hfar⟩ := h
  refine ⟨b, v, vs, G, F', he, ⟨hld, hl.below.trans (honly.below hl.below.size hl.new), fun x hx => ?_⟩, honly, fun x hx => ?_, hrows, hfar⟩
  · rcases List.mem_append.1 hx with hx | hx
    · exact Nat.le_trans hl.below.size (hG x hx)
    · rcases hF x hx with hx | hx
      · exact hl.new x hx
      · exact Nat.le_trans hl.below.size hx
  · rcases List.mem_append.1 hx with hx | hx
    · exact .inr (hG x hx)
    · exact hF x hx
end Go.Proofs.Ytgbilhfpogdfeaa
