/-
  Slices of Ops of layer 3, opened; how heavy a script is.
-/
import Derived.Test.YtgbilhfpogdfeaaMTold
namespace Go.Proofs.Ytgbilhfpogdfeaa
open Go.ChangeShapes Go.WideShapes Go.ChangeAt Go.RowKit Go.Joins Go.Deep Wal

/-- A slice of Ops, read. -/
def WOps (w : World) (A : Option Addr) (n : Nat) (l : List WOp) : Prop :=
  l.length = n ∧ (∀ o ∈ l, WOpGood w o) ∧ (0 < n → ∃ b off, A = some ⟨b, off, none⟩ ∧ b < w.heap.size ∧ ∀ i o, l[i]? = some o → ∀ j, j < 3 → w.cell? ⟨b, off + i * 3 + j, none⟩ = o.cells[j]?)
theorem bytesWOp : Try.prog.bytesOf 87 = 40 := by kernel_rfl
theorem WOpGood.kept {w w' : World} {o : WOp} (h : WOpGood w o) (hb : Below w.heap.size w w') : WOpGood w' o := ⟨h.k, h.i0, h.i1, h.batch.below hb, h.n, fun h0 a ha => Nat.lt_of_lt_of_le (h.lt h0 a ha) hb.size, h.each⟩

section
variable {H : Type} {enc : TypeId × Value → H} {W : World}
set_option maxRecDepth 100000 in
theorem open_wops_trod {fuel : Nat} {v : Value} {x : DataW H × List MemPlace} (hf : DataW.trod enc Try.prog W 0 (fun _ => true) true fuel 35 [v] = some x) (hs : Small Try.prog 35 x.1) :
    ∃ A n c l, v = .slice A n c ∧ WOps W A n l ∧ n ≤ 3518437208884 := by
  rcases open_slice Try.underlying35 hf with ⟨hcs, hx⟩ | ⟨a, len, cap, m, n', D, Pl, hcs, _, hl, hm, hmm, hx, hc⟩
  · injection hcs with hcs
    exact ⟨none, 0, 0, [], hcs, ⟨rfl, by simp, fun h => by omega⟩, by omega⟩
  · injection hcs with hcs
    simp only [if_true] at hmm
    subst hmm
    rw [hx] at hs
    obtain ⟨h1, h2⟩ := small_slice Try.underlying35 hs
    rw [bytesWOp] at h1
    simp only [List.length_map, List.length_range, reachBytes] at h1
    have key : ∀ i, i < len → ∃ o : WOp, WOpGood W o ∧ ∀ j, j < 3 → W.cell? (a.add (i * 3 + j)) = o.cells[j]? := fun i hi => by
      obtain ⟨cs', hcells, ht⟩ := hc i (by omega)
      rw [cellsWOp] at hcells
      obtain ⟨_, hlen, hat⟩ := World.cells?_some hcells
      have hsm := h2 (D i) (List.mem_map.2 ⟨i, List.mem_range.2 hi, rfl⟩)
      obtain ⟨y0, y1, y2, n2, hy, _, g0, g1, g2⟩ := trod_struct3 Try.underlying87 ht
      simp only [Prod.mk.injEq] at hy
      match cs', hlen with
      | [c0, c1, c2], _ =>
        have k0 : Try.prog.cellsOf 5 = 1 := cells5
        have k1 : Try.prog.cellsOf 57 = 1 := by kernel_rfl
        have k2 : Try.prog.cellsOf 2 = 1 := by kernel_rfl
        simp only [k0] at g0
        simp only [k1] at g1
        simp only [k2] at g2
        obtain ⟨o, ho, e0, e1, e2⟩ := open_wfields (v0 := c0) (v1 := c1) (v2 := c2) g0 g1 g2 (by rw [← hy.1]; exact hsm)
        refine ⟨o, ho, fun j hj => ?_⟩
        have := hat j hj
        rw [Go.Deep.add_add] at this
        rw [this, e0, e1, e2]
        match j, hj with
        | 0, _ => rfl
        | 1, _ => rfl
        | 2, _ => rfl
    obtain ⟨f, hf'⟩ := choose_lt (α := WOp) (p := fun i o => WOpGood W o ∧ ∀ j, j < 3 → W.cell? (a.add (i * 3 + j)) = o.cells[j]?) key
    refine ⟨some a, len, m, (List.range len).map f, hcs, ⟨by simp, fun o ho => ?_, fun hp => ?_⟩, by omega⟩
    · obtain ⟨i, hi, rfl⟩ := List.mem_map.1 ho
      exact (hf' i (List.mem_range.1 hi)).1
    · obtain ⟨b, off, spot⟩ := a
      have h0 := (hf' 0 hp).2 0 (by omega)
      have hspot : spot = none := by
        have := World.cell?_spot (h0.trans (rfl : (f 0).cells[0]? = some _))
        simpa [Addr.add] using this
      subst hspot
      refine ⟨b, off, rfl, by simpa [Addr.add] using block_lt (h0.trans (rfl : (f 0).cells[0]? = some _)), fun i o hio j hj => ?_⟩
      rw [List.getElem?_map] at hio
      obtain ⟨i', hi', rfl⟩ := Option.map_eq_some_iff.1 hio
      have hil : i < len := by
        rcases Nat.lt_or_ge i len with h' | h'
        · exact h'
        · rw [List.getElem?_eq_none (by simpa using h')] at hi'; cases hi'
      rw [List.getElem?_range hil] at hi'
      injection hi' with hi'
      subst hi'
      have h1 := (hf' i hil).2 j hj
      have e : (⟨b, off, none⟩ : Addr).add (i * 3 + j) = ⟨b, off + i * 3 + j, none⟩ := by rw [add_plain]; congr 1; omega
      rw [← e, h1]
set_option maxRecDepth 100000 in
theorem open_wops {r : Reach} {b0 : Nat} {v : Value} {d : DataW H} {p : List MemPlace} (hv : Value.okWide Try.prog W r b0 35 v) (h : DataW.Trod enc Try.prog W 0 (fun _ => true) true 35 v d p) (hs : Small Try.prog 35 d) :
    ∃ A n c l, v = .slice A n c ∧ WOps W A n l ∧ n ≤ 3518437208884 := by
  obtain ⟨A, n, c, rfl⟩ := okWide_slice Try.underlying35 hv
  obtain ⟨fuel, hf⟩ := h
  exact open_wops_trod (x := (d, p)) hf hs
theorem WOps.kept {w' : World} {A : Option Addr} {n : Nat} {l : List WOp} (h : WOps W A n l) (hb : Below W.heap.size W w') : WOps w' A n l :=
  ⟨h.1, fun o ho => (h.2.1 o ho).kept hb, fun hn => by
    obtain ⟨b, off, e, hl, hc⟩ := h.2.2 hn
    exact ⟨b, off, e, Nat.lt_of_lt_of_le hl hb.size, fun i o hi j hj => (hb.cell (p := ⟨b, off + i * 3 + j, none⟩) hl).trans (hc i o hi j hj)⟩⟩
/-- The k-th of the Ops, in memory. -/
theorem WOps.at_ {A : Option Addr} {n k : Nat} {l : List WOp} (h : WOps W A n l) (hk : k < n) : ∃ b off o, A = some ⟨b, off, none⟩ ∧ b < W.heap.size ∧ l[k]? = some o ∧ WOpGood W o ∧ l.take (k + 1) = l.take k ++ [o] ∧
    W.cell? ⟨b, off + k * 3, none⟩ = some (.int .u8 (o.kind : Int)) ∧ W.cell? ⟨b, off + k * 3 + 1, none⟩ = some (.slice o.A o.n o.c) ∧ W.cell? ⟨b, off + k * 3 + 2, none⟩ = some (.int .i64 o.num) := by
  obtain ⟨h1, h2, h3⟩ := h
  obtain ⟨b, off, e, hb, hc⟩ := h3 (by omega)
  have hkl : k < l.length := by omega
  have hx := hc k _ (List.getElem?_eq_getElem hkl)
  exact ⟨b, off, l[k], e, hb, List.getElem?_eq_getElem hkl, h2 _ (List.getElem_mem hkl), List.take_succ_eq_append_getElem hkl, hx 0 (by omega), hx 1 (by omega), hx 2 (by omega)⟩
end

/-- What a batch, a script weighs. -/
def weighs (l : List ByteArray) : Nat := (l.map fun s => 8 + s.size).sum
def weighsAll (l : List WOp) : Nat := (l.map fun o => weighs o.batch).sum
theorem weighs_snoc (l : List ByteArray) (s : ByteArray) : weighs (l ++ [s]) = weighs l + (8 + s.size) := by simp [weighs]
theorem weighsAll_snoc (l : List WOp) (o : WOp) : weighsAll (l ++ [o]) = weighsAll l + weighs o.batch := by simp [weighsAll]
theorem weighs_count (l : List ByteArray) : 8 * l.length ≤ weighs l := by
  unfold weighs
  induction l with
  | nil => simp
  | cons s r ih => simp only [List.map_cons, List.sum_cons, List.length_cons]; omega

/-- What heavy answers. -/
def HeavyRes (l : List WOp) (w : World) (e : Ending) (w' : World) : Prop := ∃ b, e = .returned (.bool b) ∧ (b = false → weighsAll l ≤ 1048576) ∧ w = w'

set_option maxRecDepth 100000 in
set_option maxHeartbeats 1600000 in
theorem heavy_any (w : World) (A : Option Addr) (n c : Nat) (l : List WOp) (hl : WOps w A n l) (hn : n ≤ 3518437208884) :
    Calls Try.prog 8 #[.slice A n c] w (HeavyRes l w) := by
  have HL := Lib.hid hl
  have hlen := Lib.hid hl.1
  have hn9 : (n : Int) ≤ 3518437208884 := by omega
  clear hl
  go_enter Try.func8, Try.ntmps8
  go_wp2
  go_loop [3, 4] (fun x i => ∃ (k : Nat) (q : Int), k ≤ n ∧ i = .int .i64 (k : Nat) ∧ x = .int .i64 q ∧ 0 ≤ q ∧ q ≤ 281474976710656 ∧ (q = (weighsAll (l.take k) : Nat) ∨ 1048576 < q)) (fun _ i => n - (intOf i).toNat)
  case atStart => exact ⟨0, 0, by omega, rfl, rfl, by omega, by omega, .inl rfl⟩
  case round =>
    obtain ⟨k, q, hk, rfl, rfl, q0, q1, hq⟩ := hrel
    have HQ := Lib.hid hq
    clear hq
    by_cases hlt : k < n
    · obtain ⟨b, off, o, rfl, hb, hio, hgo, htk, c0, c1, c2⟩ := HL.out.at_ hlt
      have HG := Lib.hid hgo
      have TK := Lib.hid htk
      have hon := hgo.n
      have hol := Lib.hid hgo.batch.1
      have hon9 : (o.n : Int) ≤ 8796093022208 := by omega
      clear hio hgo htk c0 c2
      go_wp2
      go_loop [3, 5] (fun x i => ∃ (j : Nat) (q : Int), j ≤ o.n ∧ i = .int .i64 (j : Nat) ∧ x = .int .i64 q ∧ 0 ≤ q ∧ q ≤ 281474976710656 ∧ (q = (weighsAll (l.take k) + weighs (o.batch.take j) : Nat) ∨ 1048576 < q)) (fun _ i => o.n - (intOf i).toNat)
      case atStart => exact ⟨0, q, by omega, rfl, rfl, q0, q1, by
        rcases HQ.out with h | h
        · left
          rw [h]
          simp [weighs]
        · exact .inr h⟩
      case round =>
        obtain ⟨j, p, hj, rfl, rfl, p0, p1, hp⟩ := hrel
        have HP := Lib.hid hp
        clear hp
        by_cases hlt2 : j < o.n
        · by_cases hsm : p ≤ 1048576
          · obtain ⟨b2, off2, s, hA2, _, e2, z2, x2, _, _⟩ := HG.out.batch.at_ hlt2
            have hs7 := HG.out.each s (List.mem_of_getElem? e2)
            have ES : Hid (weighs (o.batch.take (j + 1)) = weighs (o.batch.take j) + (8 + s.size)) := by
              show _ = _
              rw [List.take_add_one, e2]
              exact weighs_snoc _ _
            rw [hA2] at c1
            have hs8 : (s.size : Int) ≤ 140737488355328 := by omega
            clear e2 z2 hs7
            go_wp2
            go_round
            case rel => exact ⟨j + 1, p + (8 + s.size), by omega, by go_num, by go_num, by omega, by omega, by
              rcases HP.out with h | h
              · left
                rw [h, ES.out]
                push_cast
                omega
              · exact .inr (by omega)⟩
            case measure => simp [intOf]; omega
          · have hsm' : 1048576 < p := by omega
            go_wp2
            go_round
            case rel => exact ⟨k + 1, p, by omega, by go_num, rfl, p0, p1, .inr hsm'⟩
            case measure => simp [intOf]; omega
        · obtain rfl : j = o.n := by omega
          have EW : Hid (weighsAll (l.take (k + 1)) = weighsAll (l.take k) + weighs (o.batch.take o.n)) := by
            show _ = _
            have e : o.batch.take o.n = o.batch := List.take_of_length_le (by rw [hol.out]; exact Nat.le_refl _)
            rw [TK.out, weighsAll_snoc, e]
          go_wp2
          go_round
          case rel => exact ⟨k + 1, p, by omega, by go_num, rfl, p0, p1, by rw [EW.out]; exact HP.out⟩
          case measure => simp [intOf]; omega
    · obtain rfl : k = n := by omega
      have EW : Hid (weighsAll (l.take k) = weighsAll l) := by
        show _ = _
        rw [List.take_of_length_le (by rw [hlen.out]; exact Nat.le_refl _)]
      go_wp2
      go_ret
      refine ⟨decide (1048576 < q), rfl, fun h => ?_, rfl⟩
      rw [← EW.out]
      have h1 := of_decide_eq_false h
      rcases HQ.out with h2 | h2
      · omega
      · exact absurd h2 h1
end Go.Proofs.Ytgbilhfpogdfeaa
