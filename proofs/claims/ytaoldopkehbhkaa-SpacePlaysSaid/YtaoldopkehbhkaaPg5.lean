/-
  pager: the contracts of Begin, of newPager, erase, check and Make.
-/
import Derived.Test.YtaoldopkehbhkaaPg4
namespace Go.Proofs.Ytaoldopkehbhkaa
open Go.RowKit Go.Maps Wal

set_option maxRecDepth 100000 in
set_option maxHeartbeats 1600000 in
/-- Begin, where no transaction is open. -/
theorem begin_any (w : World) (P : PS) (h : PagAt w P (.pointer none)) (hd : P.dead = false) (hm : P.m.dead = false) :
    Calls Try.prog 22 #[.pointer (some ⟨P.p, 0, none⟩)] w fun e w' => ∃ t tm, e = .returned (.tuple #[.pointer (some ⟨t, 0, none⟩), .int .i64 0]) ∧ w.heap.size ≤ t ∧ w.heap.size ≤ tm ∧ PagAt w' P (.pointer (some ⟨t, 0, none⟩)) ∧ TxAt w' P t tm (fun _ => none) ∧ Only [P.p] w w' := by
  have TA := Lib.hid (palive_any w P _ h)
  rw [hd, hm] at TA
  have HP : { P with dead := false } = P := by rw [← hd]
  have h1 := h.setDead false
  rw [HP] at h1
  have H1 := Lib.hid h1
  have O1 : Hid (Only [P.p] w (w.setCell ⟨P.p, 5, none⟩ (.bool false))) := (Only.refl _ w).setCell (.inl (by simp)) _
  have c4 : (w.setCell ⟨P.p, 5, none⟩ (.bool false)).cell? ⟨P.p, 4, none⟩ = some (.pointer none) := h1.held.cell 4
  have hmm := @run_makeMap Try.prog
  clear h h1 HP
  go_enter Try.func22, Try.ntmps22
  go_wp2_with fail
  refine TA.out.mono ?_
  rintro e w1 ⟨rfl, rfl⟩
  clear TA
  have ed : deadErr (false || false) = 0 := rfl
  rw [show (false || false) = false from rfl] at ed ⊢
  rw [ed]
  generalize w.setCell ⟨P.p, 5, none⟩ (.bool false) = w1 at *
  obtain ⟨wa, hwa⟩ : ∃ wa, wa = (w1.alloc (.map #[] 0)).alloc (.cells #[.pointer (some ⟨P.p, 0, none⟩), .map (some w1.heap.size)] 73) := ⟨_, rfl⟩
  have BW : Hid (Below w1.heap.size w1 wa) := by rw [hwa]; exact ((Below.refl _ _).alloc (Nat.le_refl _) _).alloc (by simp) _
  have HA := Lib.hid (H1.out.under BW.out)
  obtain ⟨tm, htm⟩ : ∃ tm, tm = w1.heap.size := ⟨_, rfl⟩
  have T1 : Hid (Held wa (w1.heap.size + 1) 73 #[.pointer (some ⟨P.p, 0, none⟩), .map (some tm)]) := by rw [hwa, htm]; exact Held.new _ _ _ (by simp)
  have M1 : Hid (MapAt wa tm P.N (fun _ => none)) := by
    rw [hwa]
    exact (MapAt.made w1 htm P.N).only ((Only.refl [] _).alloc _) (by simp)
  have LT := Lib.hid H1.out.lt
  have c4 := HA.out.held.cell 4
  have z4 := HA.out.held.frozen 4
  rw [hwa] at c4 z4
  go_upto_region 7 with fail
  rw [← hwa, ← htm]
  rw [← htm] at T1
  obtain ⟨t, ht⟩ : ∃ t, t = tm + 1 := ⟨_, rfl⟩
  rw [← ht] at T1 ⊢
  have ho : Only [P.p] wa (wa.setCell ⟨P.p, 4, none⟩ (.pointer (some ⟨t, 0, none⟩))) := (Only.refl _ wa).setCell (.inl (by simp)) _
  have hs := O1.out.size
  have hn : P.p ≠ t ∧ P.p ≠ tm := by have := LT.out.1; omega
  have PB := Lib.hid (HA.out.setTx (.pointer (some ⟨t, 0, none⟩)))
  have TB : Hid (TxAt (wa.setCell ⟨P.p, 4, none⟩ (.pointer (some ⟨t, 0, none⟩))) P t tm (fun _ => none)) := by
    have h1 := LT.out.1
    have h2 := LT.out.2.1
    exact ⟨T1.out.only ho (by simpa using hn.1.symm), M1.out.only ho (by simpa using hn.2.symm), ⟨by omega, by omega, by omega, by omega, by omega⟩, fun hx => by have := LT.out.2.2 _ hx; omega, fun hx => by have := LT.out.2.2 _ hx; omega⟩
  have OB : Hid (Only [P.p] w (wa.setCell ⟨P.p, 4, none⟩ (.pointer (some ⟨t, 0, none⟩)))) := (O1.out.trans (Only.of_below (F := []) BW.out) (fun _ hx => by cases hx)).trans ho (fun x hx => .inl hx)
  have GE : Hid (w.heap.size ≤ t ∧ w.heap.size ≤ tm) := ⟨by omega, by omega⟩
  have c4 : (wa.setCell ⟨P.p, 4, none⟩ (.pointer (some ⟨t, 0, none⟩))).cell? ⟨P.p, 4, none⟩ = some (.pointer (some ⟨t, 0, none⟩)) := PB.out.held.cell 4
  clear hwa htm ht ho hs hn
  generalize wa.setCell ⟨P.p, 4, none⟩ (.pointer (some ⟨t, 0, none⟩)) = wb at *
  go_wp2_with fail
  go_ret2
  exact ⟨t, tm, rfl, GE.out.1, GE.out.2, PB.out, TB.out, OB.out⟩

namespace Dsk
/-- k sectors from a on, written with nothing. -/
def wrs (m : DM) (a : Nat) : Nat → DM
  | 0 => m
  | k + 1 => (wrs m a k).write ((a + k : Nat) : Int) []
def erased (m : DM) (a b : Nat) : DM := (wrs m a (b - a)).flush
section
variable {m : DM} {a : Nat}
structure Calm (m m' : DM) (k : Nat) : Prop where
  dead : m'.dead = false
  fuel : m'.fuel = -1
  dur : m'.dur = m.dur
  wait : m'.wait.length = m.wait.length + k
theorem write_calm {m : DM} {i : Nat} {l : List Nat} (hd : m.dead = false) (hf : m.fuel = -1) (hi : i < m.dur.length) (hl : l.length ≤ 512) : m.writeErr (i : Int) l.length = 0 ∧ m.write (i : Int) l = { m with wait := m.wait ++ [(i, l)] } := by
  have h1 : ¬ (¬ (0 ≤ (i : Int) ∧ (i : Int) < (m.dur.length : Int)) ∨ 512 < l.length) := by omega
  have hb : m.burn = m := by simp [DM.burn, hf]
  refine ⟨?_, ?_⟩
  · simp [DM.writeErr, hd, hf, hi]
    omega
  · unfold DM.write
    rw [if_neg (by rw [hd]; simp), if_neg h1, if_neg (by rw [hf]; decide), hb]
    simp
theorem wrs_calm (hd : m.dead = false) (hf : m.fuel = -1) : ∀ k, a + k ≤ m.dur.length → Calm m (wrs m a k) k ∧ (wrs m a k).wait = m.wait ++ (List.range k).map (fun i => (a + i, []))
  | 0, _ => ⟨⟨hd, hf, rfl, rfl⟩, by simp [wrs]⟩
  | k + 1, h => by
    obtain ⟨h1, h2⟩ := wrs_calm hd hf k (by omega)
    have h3 := (write_calm (m := wrs m a k) (i := a + k) (l := []) h1.dead h1.fuel (by rw [h1.dur]; omega) (by simp)).2
    refine ⟨⟨?_, ?_, ?_, ?_⟩, ?_⟩
    all_goals unfold wrs; rw [h3]
    · exact h1.dead
    · exact h1.fuel
    · exact h1.dur
    · dsimp only
      rw [List.length_append, h1.wait]
      rfl
    · dsimp only
      rw [h2, List.range_succ, List.map_append, List.append_assoc]
      rfl
theorem erased_calm {b : Nat} (hd : m.dead = false) (hf : m.fuel = -1) (hb : a ≤ b) (h : b ≤ m.dur.length) : (wrs m a (b - a)).flushErr = 0 ∧ (erased m a b).dead = false ∧ (erased m a b).fuel = -1 ∧ (erased m a b).wait = [] ∧ (erased m a b).dur = apply (m.wait ++ (List.range (b - a)).map (fun i => (a + i, []))) m.dur := by
  obtain ⟨h1, h2⟩ := wrs_calm (a := a) hd hf (b - a) (by omega)
  have hbn : (wrs m a (b - a)).burn = wrs m a (b - a) := by simp [DM.burn, h1.fuel]
  refine ⟨by simp [DM.flushErr, h1.dead, h1.fuel], ?_⟩
  have e : erased m a b = { wrs m a (b - a) with dur := (wrs m a (b - a)).seen, wait := [] } := by
    unfold erased DM.flush
    rw [if_neg (by rw [h1.dead]; simp), if_neg (by rw [h1.fuel]; decide), hbn]
  rw [e]
  refine ⟨h1.dead, h1.fuel, rfl, ?_⟩
  show apply _ _ = _
  rw [h2, h1.dur]
theorem apply_none : ∀ (w : List (Nat × List Nat)) (M : Nat), (∀ p ∈ w, p.2 = []) → apply w (List.replicate M []) = List.replicate M []
  | [], _, _ => rfl
  | p :: r, M, h => by
    have : (List.replicate M ([] : List Nat)).set p.1 p.2 = List.replicate M [] := by
      rw [h p (by simp)]
      simp
    show apply r ((List.replicate M ([] : List Nat)).set p.1 p.2) = _
    rw [this]
    exact apply_none r M (fun q hq => h q (by simp [hq]))
theorem erased_fresh {M b : Nat} (hb : a ≤ b) (h : b ≤ M) : erased (fresh M) a b = fresh M := by
  obtain ⟨_, h1, h2, h3, h4⟩ := erased_calm (m := fresh M) (a := a) (b := b) rfl rfl hb (by simpa [fresh] using h)
  have h5 : (erased (fresh M) a b).dur = List.replicate M [] := by
    rw [h4]
    refine apply_none _ M (fun p hp => ?_)
    have hp : p ∈ (List.range (b - a)).map (fun i => (a + i, ([] : List Nat))) := by simpa [fresh] using hp
    obtain ⟨i, _, rfl⟩ := List.mem_map.1 hp
    rfl
  generalize erased (fresh M) a b = x at *
  cases x
  simp only at h1 h2 h3 h5
  subst h1 h2 h3 h5
  rfl
end
end Dsk

set_option maxRecDepth 100000 in
set_option maxHeartbeats 800000 in
theorem erase_any (w : World) (d : Nat) (F : List Nat) (m : Dsk.DM) (a b : Nat) (h : DiskAt w d F m) (hd : m.dead = false) (hf : m.fuel = -1) (hab : a ≤ b) (hb : b ≤ m.dur.length) (hw : m.wait.length ≤ 5700000000000) :
    Calls Try.prog 35 #[.pointer (some ⟨d, 0, none⟩), .int .i64 (a : Int), .int .i64 (b : Int)] w fun e w' => e = .returned (.int .i64 0) ∧ Turned w d F w' (Dsk.erased m a b) := by
  have hmost := h.good.most
  have HH := Lib.hid h
  have FE := Lib.hid (Dsk.erased_calm hd hf hab hb).1
  have WR := Lib.hid (fun k (hk : a + k ≤ m.dur.length) => (Dsk.wrs_calm (m := m) (a := a) hd hf k hk).1)
  have HM : Hid (m.wait.length ≤ 5700000000000 ∧ b ≤ m.dur.length ∧ m.dur.length ≤ 4096) := ⟨hw, hb, hmost⟩
  have hb4 : (b : Int) ≤ 4096 := by omega
  clear h hd hf hw hb hmost
  go_enter Try.func35, Try.ntmps35
  go_wp2_with fail
  go_loopw [7] (fun iv wr => ∃ i F', a ≤ i ∧ i ≤ b ∧ iv = .int .i64 (i : Nat) ∧ DiskAt wr d F' (Dsk.wrs m a (i - a)) ∧ Only F w wr ∧ ∀ x ∈ F', x ∈ F ∨ w.heap.size ≤ x) (fun iv _ => b - (intOf iv).toNat)
  case atStart => exact ⟨a, F, Nat.le_refl _, hab, rfl, by rw [Nat.sub_self]; exact HH.out, Only.refl _ _, fun _ hx => .inl hx⟩
  case round =>
    obtain ⟨i, F', hai, hib, rfl, hD, hO, hG⟩ := hrel
    have DD := Lib.hid hD
    have OO : Hid (Only F w wr ∧ ∀ x ∈ F', x ∈ F ∨ w.heap.size ≤ x) := ⟨hO, hG⟩
    have HI : Hid (a ≤ i) := hai
    clear hD hO hG
    have CK := WR.out (i - a) (by have := HM.out; omega)
    by_cases hlt : i < b
    · have hlt' : (i : Int) < (b : Int) := by omega
      have WA := write_any wr d F' _ (i : Int) none 0 0 [] DD.out (bts_nil wr) (by omega) (fun h0 => by omega) (by rw [CK.wait]; have := HM.out; omega)
      have hwe := (Dsk.write_calm (m := Dsk.wrs m a (i - a)) (i := i) (l := []) CK.dead CK.fuel (by rw [CK.dur]; have := HM.out; omega) (by simp)).1
      rw [show (0 : Nat) = ([] : List Nat).length from rfl, hwe] at WA
      have WA := Lib.hid WA
      clear CK hwe
      go_wp2_with fail
      refine WA.out.mono ?_
      rintro e w2 ⟨rfl, F2, hD2, hO2, hG2⟩
      have R2 : Hid (DiskAt w2 d F2 (Dsk.wrs m a (i + 1 - a)) ∧ Only F w w2 ∧ ∀ x ∈ F2, x ∈ F ∨ w.heap.size ≤ x) := by
        refine ⟨?_, OO.out.1.trans hO2 OO.out.2, fun x hx => ?_⟩
        · rw [show i + 1 - a = (i - a) + 1 by omega]
          show DiskAt w2 d F2 ((Dsk.wrs m a (i - a)).write ((a + (i - a) : Nat) : Int) [])
          rw [show a + (i - a) = i by omega]
          exact hD2
        · rcases hG2 x hx with h1 | h1
          · exact OO.out.2 x h1
          · exact .inr (Nat.le_trans OO.out.1.size h1)
      clear hD2 hO2 hG2 WA DD OO
      go_wp2_with fail
      go_roundw
      case rel => exact ⟨i + 1, F2, by omega, by omega, by go_num, R2.out.1, R2.out.2.1, R2.out.2.2⟩
      case measure => simp [intOf]; omega
    · obtain rfl : i = b := by omega
      have FA := flush_any wr d F' _ DD.out (by rw [CK.wait]; have := HM.out; omega)
      rw [FE.out] at FA
      have FA := Lib.hid FA
      clear CK
      go_wp2_with fail
      refine FA.out.mono ?_
      rintro e w2 ⟨rfl, F2, hD2, hO2, hG2⟩
      have R2 : Hid (Turned w d F w2 (Dsk.erased m a i)) := ⟨F2, hD2, OO.out.1.trans hO2 OO.out.2, fun x hx => by
        rcases hG2 x hx with h1 | h1
        · exact OO.out.2 x h1
        · exact .inr (Nat.le_trans OO.out.1.size h1)⟩
      clear hD2 hO2 hG2 FA
      go_wp2_with fail
      go_ret
      exact ⟨rfl, R2.out⟩
end Go.Proofs.Ytaoldopkehbhkaa
