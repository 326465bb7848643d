/-
  Slices of Ops of layer 3, opened; how heavy a script is. · The document's own log (package docketref03) in memory, and the contracts of its Room, Trim and Append. · WalPlays: the log's model beside the document's, call by call.
-/
import Derived.Test.YtacpgahbfmpiiaaMTold
namespace Go.Proofs.Ytacpgahbfmpiiaa
open Go.ChangeShapes Go.WideShapes Go.ChangeAt Go.RowKit Go.Joins Go.Deep Wal

/-- A slice of Ops, read. -/
def WOps (w : World) (A : Option Addr) (n : Nat) (l : List WOp) : Prop :=
  l.length = n ∧ (∀ o ∈ l, WOpGood w o) ∧ (0 < n → ∃ b off, A = some ⟨b, off, none⟩ ∧ b < w.heap.size ∧ ∀ i o, l[i]? = some o → ∀ j, j < 3 → w.cell? ⟨b, off + i * 3 + j, none⟩ = o.cells[j]?)
theorem bytesWOp : Try.prog.bytesOf 38 = 40 := by kernel_rfl
theorem WOpGood.kept {w w' : World} {o : WOp} (h : WOpGood w o) (hb : Below w.heap.size w w') : WOpGood w' o := ⟨h.k, h.i0, h.i1, h.batch.below hb, h.n, fun h0 a ha => Nat.lt_of_lt_of_le (h.lt h0 a ha) hb.size, h.each⟩

section
variable {H : Type} {enc : TypeId × Value → H} {W : World}
set_option maxRecDepth 100000 in
theorem open_wops_trod {fuel : Nat} {v : Value} {x : DataW H × List MemPlace} (hf : DataW.trod enc Try.prog W 0 (fun _ => true) true fuel 22 [v] = some x) (hs : Small Try.prog 22 x.1) :
    ∃ A n c l, v = .slice A n c ∧ WOps W A n l ∧ n ≤ 3518437208884 := by
  rcases open_slice Try.underlying22 hf with ⟨hcs, hx⟩ | ⟨a, len, cap, m, n', D, Pl, hcs, _, hl, hm, hmm, hx, hc⟩
  · injection hcs with hcs
    exact ⟨none, 0, 0, [], hcs, ⟨rfl, by simp, fun h => by omega⟩, by omega⟩
  · injection hcs with hcs
    simp only [if_true] at hmm
    subst hmm
    rw [hx] at hs
    obtain ⟨h1, h2⟩ := small_slice Try.underlying22 hs
    rw [bytesWOp] at h1
    simp only [List.length_map, List.length_range, reachBytes] at h1
    have key : ∀ i, i < len → ∃ o : WOp, WOpGood W o ∧ ∀ j, j < 3 → W.cell? (a.add (i * 3 + j)) = o.cells[j]? := fun i hi => by
      obtain ⟨cs', hcells, ht⟩ := hc i (by omega)
      rw [cellsWOp] at hcells
      obtain ⟨_, hlen, hat⟩ := World.cells?_some hcells
      have hsm := h2 (D i) (List.mem_map.2 ⟨i, List.mem_range.2 hi, rfl⟩)
      obtain ⟨y0, y1, y2, n2, hy, _, g0, g1, g2⟩ := trod_struct3 Try.underlying38 ht
      simp only [Prod.mk.injEq] at hy
      match cs', hlen with
      | [c0, c1, c2], _ =>
        have k0 : Try.prog.cellsOf 5 = 1 := cells5
        have k1 : Try.prog.cellsOf 36 = 1 := by kernel_rfl
        have k2 : Try.prog.cellsOf 2 = 1 := by kernel_rfl
        simp only [k0] at g0
        simp only [k1] at g1
        simp only [k2] at g2
        obtain ⟨o, ho, e0, e1, e2⟩ := open_wfields (v0 := c0) (v1 := c1) (v2 := c2) g0 g1 g2 (by rw [← hy.1]; exact hsm)
        refine ⟨o, ho, fun j hj => ?_⟩
        have := hat j hj
        rw [Go.Deep.add_add] at this
        rw [this, e0, e1, e2]
        match j, hj with
        | 0, _ => rfl
        | 1, _ => rfl
        | 2, _ => rfl
    obtain ⟨f, hf'⟩ := choose_lt (α := WOp) (p := fun i o => WOpGood W o ∧ ∀ j, j < 3 → W.cell? (a.add (i * 3 + j)) = o.cells[j]?) key
    refine ⟨some a, len, m, (List.range len).map f, hcs, ⟨by simp, fun o ho => ?_, fun hp => ?_⟩, by omega⟩
    · obtain ⟨i, hi, rfl⟩ := List.mem_map.1 ho
      exact (hf' i (List.mem_range.1 hi)).1
    · obtain ⟨b, off, spot⟩ := a
      have h0 := (hf' 0 hp).2 0 (by omega)
      have hspot : spot = none := by
        have := World.cell?_spot (h0.trans (rfl : (f 0).cells[0]? = some _))
        simpa [Addr.add] using this
      subst hspot
      refine ⟨b, off, rfl, by simpa [Addr.add] using block_lt (h0.trans (rfl : (f 0).cells[0]? = some _)), fun i o hio j hj => ?_⟩
      rw [List.getElem?_map] at hio
      obtain ⟨i', hi', rfl⟩ := Option.map_eq_some_iff.1 hio
      have hil : i < len := by
        rcases Nat.lt_or_ge i len with h' | h'
        · exact h'
        · rw [List.getElem?_eq_none (by simpa using h')] at hi'; cases hi'
      rw [List.getElem?_range hil] at hi'
      injection hi' with hi'
      subst hi'
      have h1 := (hf' i hil).2 j hj
      have e : (⟨b, off, none⟩ : Addr).add (i * 3 + j) = ⟨b, off + i * 3 + j, none⟩ := by rw [add_plain]; congr 1; omega
      rw [← e, h1]
set_option maxRecDepth 100000 in
theorem open_wops {r : Reach} {b0 : Nat} {v : Value} {d : DataW H} {p : List MemPlace} (hv : Value.okWide Try.prog W r b0 22 v) (h : DataW.Trod enc Try.prog W 0 (fun _ => true) true 22 v d p) (hs : Small Try.prog 22 d) :
    ∃ A n c l, v = .slice A n c ∧ WOps W A n l ∧ n ≤ 3518437208884 := by
  obtain ⟨A, n, c, rfl⟩ := okWide_slice Try.underlying22 hv
  obtain ⟨fuel, hf⟩ := h
  exact open_wops_trod (x := (d, p)) hf hs
theorem WOps.kept {w' : World} {A : Option Addr} {n : Nat} {l : List WOp} (h : WOps W A n l) (hb : Below W.heap.size W w') : WOps w' A n l :=
  ⟨h.1, fun o ho => (h.2.1 o ho).kept hb, fun hn => by
    obtain ⟨b, off, e, hl, hc⟩ := h.2.2 hn
    exact ⟨b, off, e, Nat.lt_of_lt_of_le hl hb.size, fun i o hi j hj => (hb.cell (p := ⟨b, off + i * 3 + j, none⟩) hl).trans (hc i o hi j hj)⟩⟩
/-- The k-th of the Ops, in memory. -/
theorem WOps.at_ {A : Option Addr} {n k : Nat} {l : List WOp} (h : WOps W A n l) (hk : k < n) : ∃ b off o, A = some ⟨b, off, none⟩ ∧ b < W.heap.size ∧ l[k]? = some o ∧ WOpGood W o ∧ l.take (k + 1) = l.take k ++ [o] ∧
    W.cell? ⟨b, off + k * 3, none⟩ = some (.int .u8 (o.kind : Int)) ∧ W.cell? ⟨b, off + k * 3 + 1, none⟩ = some (.slice o.A o.n o.c) ∧ W.cell? ⟨b, off + k * 3 + 2, none⟩ = some (.int .i64 o.num) := by
  obtain ⟨h1, h2, h3⟩ := h
  obtain ⟨b, off, e, hb, hc⟩ := h3 (by omega)
  have hkl : k < l.length := by omega
  have hx := hc k _ (List.getElem?_eq_getElem hkl)
  exact ⟨b, off, l[k], e, hb, List.getElem?_eq_getElem hkl, h2 _ (List.getElem_mem hkl), List.take_succ_eq_append_getElem hkl, hx 0 (by omega), hx 1 (by omega), hx 2 (by omega)⟩
end

/-- What a batch, a script weighs. -/
def weighs (l : List ByteArray) : Nat := (l.map fun s => 8 + s.size).sum
def weighsAll (l : List WOp) : Nat := (l.map fun o => weighs o.batch).sum
theorem weighs_snoc (l : List ByteArray) (s : ByteArray) : weighs (l ++ [s]) = weighs l + (8 + s.size) := by simp [weighs]
theorem weighsAll_snoc (l : List WOp) (o : WOp) : weighsAll (l ++ [o]) = weighsAll l + weighs o.batch := by simp [weighsAll]
theorem weighs_count (l : List ByteArray) : 8 * l.length ≤ weighs l := by
  unfold weighs
  induction l with
  | nil => simp
  | cons s r ih => simp only [List.map_cons, List.sum_cons, List.length_cons]; omega

/-- What heavy answers. -/
def HeavyRes (l : List WOp) (w : World) (e : Ending) (w' : World) : Prop := ∃ b, e = .returned (.bool b) ∧ (b = false → weighsAll l ≤ 1048576) ∧ w = w'

set_option maxRecDepth 100000 in
set_option maxHeartbeats 1600000 in
theorem heavy_any (w : World) (A : Option Addr) (n c : Nat) (l : List WOp) (hl : WOps w A n l) (hn : n ≤ 3518437208884) :
    Calls Try.prog 12 #[.slice A n c] w (HeavyRes l w) := by
  have HL := Lib.hid hl
  have hlen := Lib.hid hl.1
  have hn9 : (n : Int) ≤ 3518437208884 := by omega
  clear hl
  go_enter Try.func12, Try.ntmps12
  go_wp2
  go_loop [3, 4] (fun x i => ∃ (k : Nat) (q : Int), k ≤ n ∧ i = .int .i64 (k : Nat) ∧ x = .int .i64 q ∧ 0 ≤ q ∧ q ≤ 281474976710656 ∧ (q = (weighsAll (l.take k) : Nat) ∨ 1048576 < q)) (fun _ i => n - (intOf i).toNat)
  case atStart => exact ⟨0, 0, by omega, rfl, rfl, by omega, by omega, .inl rfl⟩
  case round =>
    obtain ⟨k, q, hk, rfl, rfl, q0, q1, hq⟩ := hrel
    have HQ := Lib.hid hq
    clear hq
    by_cases hlt : k < n
    · obtain ⟨b, off, o, rfl, hb, hio, hgo, htk, c0, c1, c2⟩ := HL.out.at_ hlt
      have HG := Lib.hid hgo
      have TK := Lib.hid htk
      have hon := hgo.n
      have hol := Lib.hid hgo.batch.1
      have hon9 : (o.n : Int) ≤ 8796093022208 := by omega
      clear hio hgo htk c0 c2
      go_wp2
      go_loop [3, 5] (fun x i => ∃ (j : Nat) (q : Int), j ≤ o.n ∧ i = .int .i64 (j : Nat) ∧ x = .int .i64 q ∧ 0 ≤ q ∧ q ≤ 281474976710656 ∧ (q = (weighsAll (l.take k) + weighs (o.batch.take j) : Nat) ∨ 1048576 < q)) (fun _ i => o.n - (intOf i).toNat)
      case atStart => exact ⟨0, q, by omega, rfl, rfl, q0, q1, by
        rcases HQ.out with h | h
        · left
          rw [h]
          simp [weighs]
        · exact .inr h⟩
      case round =>
        obtain ⟨j, p, hj, rfl, rfl, p0, p1, hp⟩ := hrel
        have HP := Lib.hid hp
        clear hp
        by_cases hlt2 : j < o.n
        · by_cases hsm : p ≤ 1048576
          · obtain ⟨b2, off2, s, hA2, _, e2, z2, x2, _, _⟩ := HG.out.batch.at_ hlt2
            have hs7 := HG.out.each s (List.mem_of_getElem? e2)
            have ES : Hid (weighs (o.batch.take (j + 1)) = weighs (o.batch.take j) + (8 + s.size)) := by
              show _ = _
              rw [List.take_add_one, e2]
              exact weighs_snoc _ _
            rw [hA2] at c1
            have hs8 : (s.size : Int) ≤ 140737488355328 := by omega
            clear e2 z2 hs7
            go_wp2
            go_round
            case rel => exact ⟨j + 1, p + (8 + s.size), by omega, by go_num, by go_num, by omega, by omega, by
              rcases HP.out with h | h
              · left
                rw [h, ES.out]
                push_cast
                omega
              · exact .inr (by omega)⟩
            case measure => simp [intOf]; omega
          · have hsm' : 1048576 < p := by omega
            go_wp2
            go_round
            case rel => exact ⟨k + 1, p, by omega, by go_num, rfl, p0, p1, .inr hsm'⟩
            case measure => simp [intOf]; omega
        · obtain rfl : j = o.n := by omega
          have EW : Hid (weighsAll (l.take (k + 1)) = weighsAll (l.take k) + weighs (o.batch.take o.n)) := by
            show _ = _
            have e : o.batch.take o.n = o.batch := List.take_of_length_le (by rw [hol.out]; exact Nat.le_refl _)
            rw [TK.out, weighsAll_snoc, e]
          go_wp2
          go_round
          case rel => exact ⟨k + 1, p, by omega, by go_num, rfl, p0, p1, by rw [EW.out]; exact HP.out⟩
          case measure => simp [intOf]; omega
    · obtain rfl : k = n := by omega
      have EW : Hid (weighsAll (l.take k) = weighsAll l) := by
        show _ = _
        rw [List.take_of_length_le (by rw [hlen.out]; exact Nat.le_refl _)]
      go_wp2
      go_ret
      refine ⟨decide (1048576 < q), rfl, fun h => ?_, rfl⟩
      rw [← EW.out]
      have h1 := of_decide_eq_false h
      rcases HQ.out with h2 | h2
      · omega
      · exact absurd h2 h1
end Go.Proofs.Ytacpgahbfmpiiaa

namespace Go.Proofs.Ytacpgahbfmpiiaa
open Go.RowKit Wal

/-- The document's log in block r: all batches, how many are trimmed, how many synced. -/
structure RLog (w0 w : World) (r : Nat) (vL : Value) (vs : List Value) (ring : Nat) (Bs : List (List (List Nat))) (T S : Nat) : Prop where
  held : Held w r 35 #[.int .i64 (ring : Int), vL, .int .i64 (T : Int), .int .i64 (S : Int)]
  rows : RowsAt w w0.heap.size vL vs Bs
  new : w0.heap.size ≤ r
  good : ∀ B ∈ Bs, Wal.good B = true ∧ ∀ r ∈ B, ∀ x ∈ r, x < 256
section
variable {w0 w w' : World} {r : Nat} {vL : Value} {vs : List Value} {ring T S : Nat} {Bs : List (List (List Nat))} {H : List Nat}
theorem RLog.apart (h : RLog w0 w r vL vs ring Bs T S) : r ∉ rowsFoot vL vs := fun hm => by
  rcases mem_rowsFoot.1 hm with h1 | ⟨u, hu, h1⟩
  · exact h.held.ne_row h.rows.row (by decide) r h1 rfl
  · obtain ⟨k, B, h2, h3⟩ := h.rows.at_ hu
    exact h.held.ne_row (h.rows.each k u B h2 h3) (by decide) r h1 rfl
theorem RLog.only (h : RLog w0 w r vL vs ring Bs T S) (k : Only H w w') (hH : ∀ x ∈ r :: rowsFoot vL vs, x ∉ H) : RLog w0 w' r vL vs ring Bs T S :=
  ⟨h.held.only k (hH r (by simp)), h.rows.only k (fun x hx => hH x (List.mem_cons_of_mem _ hx)), h.new, h.good⟩
theorem RLog.under (h : RLog w0 w r vL vs ring Bs T S) (k : Below w.heap.size w w') : RLog w0 w' r vL vs ring Bs T S := h.only (Only.of_below (F := []) k) (fun _ _ hx => by cases hx)
theorem RLog.lt (h : RLog w0 w r vL vs ring Bs T S) : ∀ x ∈ r :: rowsFoot vL vs, w0.heap.size ≤ x ∧ x < w.heap.size := fun x hx => by
  rcases List.mem_cons.1 hx with rfl | hx
  · exact ⟨h.new, h.held.lt⟩
  · exact h.rows.lt x hx
theorem RLog.stored (h : RLog w0 w r vL vs ring Bs T S) (i : Nat) (x : Nat) (hi : i = 2 ∨ i = 3) : RLog w0 (w.setCell ⟨r, i, none⟩ (.int .i64 (x : Int))) r vL vs ring Bs (if i = 2 then x else T) (if i = 3 then x else S) := by
  have ho : Only [r] w (w.setCell ⟨r, i, none⟩ (.int .i64 (x : Int))) := (Only.refl _ w).setCell (.inl (by simp)) _
  refine ⟨?_, h.rows.only ho (fun y hy hm => h.apart (by
    obtain rfl : y = r := by simpa using hm
    exact hy)), h.new, h.good⟩
  have h1 := h.held.set_ i (.int .i64 (x : Int))
  rcases hi with rfl | rfl
  · simpa using h1
  · simpa using h1
/-- What is read of a batch. -/
theorem RLog.at_ (h : RLog w0 w r vL vs ring Bs T S) {k : Nat} {B : List (List Nat)} (hk : Bs[k]? = some B) : ∃ g c A c', vL = .slice (some ⟨g, 0, none⟩) Bs.length c ∧ w.cell? ⟨g, k, none⟩ = some (.slice A B.length c') ∧ Strs w A B.length (toStrs B) ∧ txts (toStrs B) = B ∧ need B ≤ 1209 ∧ bodyLen B ≤ 618496 ∧ B.length ≤ 1024 := by
  obtain ⟨g, c, A, c', hv, hc, ho⟩ := h.rows.slot hk
  have hg := h.good B (List.mem_of_getElem? hk)
  have hg1 := hg.1
  unfold Wal.good at hg1
  simp only [Bool.and_eq_true, decide_eq_true_eq, List.all_eq_true] at hg1
  have hsz : ∀ r ∈ B, r.length ≤ 4611686018427387904 := fun r hr => by have := hg1.1.1 r hr; omega
  obtain ⟨_, h1, h2⟩ := strs_own ho hsz hg.2
  have h5 := bodyLen_le (b := B) (k := 600) (fun r hr => hg1.1.1 r hr)
  exact ⟨g, c, A, c', hv, hc, h1, h2, need_of_good hg.1, by omega, hg1.2⟩
end

theorem rowsFoot_cut {A : Option Addr} {n S c : Nat} {vs : List Value} {x : Nat} (hx : x ∈ rowsFoot (.slice A S c) (vs.take S)) : x ∈ rowsFoot (.slice A n c) vs := by
  rcases mem_rowsFoot.1 hx with h1 | ⟨u, hu, h1⟩
  · refine mem_rowsFoot.2 (.inl ?_)
    cases A with
    | none => cases h1
    | some a => exact h1
  · exact mem_rowsFoot.2 (.inr ⟨u, List.mem_of_mem_take hu, h1⟩)
/-- The list of batches is cut. -/
theorem RLog.cut {w0 w : World} {r : Nat} {A : Option Addr} {c : Nat} {vs : List Value} {ring T S0 S : Nat} {Bs : List (List (List Nat))} (h : RLog w0 w r (.slice A Bs.length c) vs ring Bs T S0) (hS : S ≤ Bs.length) :
    RLog w0 (w.setCell ⟨r, 1, none⟩ (.slice A S c)) r (.slice A S c) (vs.take S) ring (Bs.take S) T S0 ∧ Only [r] w (w.setCell ⟨r, 1, none⟩ (.slice A S c)) := by
  have ho : Only [r] w (w.setCell ⟨r, 1, none⟩ (.slice A S c)) := (Only.refl _ w).setCell (.inl (by simp)) _
  have hr := h.rows.only ho (fun x hx hm => h.apart (by
    obtain rfl : x = r := by simpa using hm
    exact hx))
  have hl : (Bs.take S).length = S := by rw [List.length_take]; omega
  refine ⟨⟨?_, ⟨?_, fun k u B h1 h2 => ?_⟩, h.new, fun B hB => h.good B (List.mem_of_mem_take hB)⟩, ho⟩
  · have h1 := h.held.set_ 1 (.slice A S c)
    simpa using h1
  · rw [hl]
    have h1 := hr.row
    refine ⟨by rw [List.length_take, h1.1]; omega, ?_⟩
    rcases h1.2 with ⟨e, h0⟩ | ⟨g, cap, cur, e, hg, hh, hn, hm, hs, ht⟩
    · injection e with e1 e2 e3
      have : S = 0 := by omega
      subst e1 e3 this
      exact .inl ⟨rfl, rfl⟩
    · injection e with e1 e2 e3
      subst e1 e3
      refine .inr ⟨g, c, cur, rfl, hg, hh, by omega, hm, hs, ?_⟩
      rw [← ht, List.take_take]
      congr 1
      omega
  · rw [List.getElem?_take] at h1 h2
    split at h1
    · rename_i hk
      rw [if_pos hk] at h2
      exact hr.each k u B h1 h2
    · cases h1

set_option maxRecDepth 100000 in
set_option maxHeartbeats 1600000 in
theorem refRoom_any {w0 : World} (w : World) (r : Nat) (vL : Value) (vs : List Value) (ring T S : Nat) (Bs : List (List (List Nat))) (h : RLog w0 w r vL vs ring Bs T S) (hr : ring ≤ 4096) (hT : T ≤ Bs.length) (hB : Bs.length ≤ 1000000000) :
    Calls Try.prog 26 #[.pointer (some ⟨r, 0, none⟩)] w fun e w' => e = .returned (.int .i64 ((ring : Int) - (((Bs.drop T).map need).sum : Nat))) ∧ w = w' := by
  have H := Lib.hid h
  have c0 := h.held.cell 0
  have c1 := h.held.cell 1
  have c2 := h.held.cell 2
  obtain ⟨A, c, hv⟩ := own_slice h.rows.row
  subst hv
  have hN : Hid (∀ k, (((Bs.take k).drop T).map need).sum ≤ 1209 * k) := by
    have hneed : ∀ (l : List (List (List Nat))), (∀ B ∈ l, need B ≤ 1209) → (l.map need).sum ≤ 1209 * l.length := fun l => by
      induction l with
      | nil => simp
      | cons B q ih =>
        intro hq
        have h1 := hq B (by simp)
        have h2 := ih (fun B hB => hq B (by simp [hB]))
        simp only [List.map_cons, List.sum_cons, List.length_cons]
        omega
    intro k
    have h1 := hneed ((Bs.take k).drop T) (fun B hB => need_of_good (h.good B (List.mem_of_mem_take (List.mem_of_mem_drop hB))).1)
    have h2 : ((Bs.take k).drop T).length ≤ k := by rw [List.length_drop, List.length_take]; omega
    have h3 : 1209 * ((Bs.take k).drop T).length ≤ 1209 * k := Nat.mul_le_mul_left _ h2
    omega
  obtain ⟨N, hNl⟩ : ∃ N, N = Bs.length := ⟨_, rfl⟩
  have EN := Lib.hid hNl
  rw [← hNl] at c1 hT hB
  have hB9 : (N : Int) ≤ 1000000000 := by omega
  have hr9 : (ring : Int) ≤ 4096 := by omega
  have hT9 : (T : Int) ≤ 1000000000 := by omega
  obtain ⟨Z, hZ⟩ : ∃ Z, Z = ((Bs.drop T).map need).sum := ⟨_, rfl⟩
  have EZ := Lib.hid hZ
  rw [← hZ]
  clear h hNl hZ
  go_enter Try.func26, Try.ntmps26
  go_wp2_with fail
  go_loop [3, 4] (fun x i => ∃ k q : Nat, T ≤ k ∧ k ≤ N ∧ i = .int .i64 (k : Nat) ∧ x = .int .i64 ((ring : Int) - (q : Nat)) ∧ q = (((Bs.take k).drop T).map need).sum) (fun _ i => N - (intOf i).toNat)
  case atStart => exact ⟨T, 0, by omega, hT, rfl, by simp, by
    have : (Bs.take T).drop T = [] := List.drop_of_length_le (by rw [List.length_take]; omega)
    rw [this]
    rfl⟩
  case round =>
    obtain ⟨k, q, hk0, hk, rfl, rfl, hq⟩ := hrel
    have HQ := Lib.hid hq
    have hq9 : (q : Int) ≤ 1209000000000 := by
      have := hN.out k
      rw [← hq] at this
      omega
    clear hq
    by_cases hlt : k < N
    · have hlt' : (k : Int) < (N : Int) := by omega
      obtain ⟨B, hBk⟩ : ∃ B, Bs[k]? = some B := ⟨_, List.getElem?_eq_getElem (by rw [← EN.out]; exact hlt)⟩
      obtain ⟨g, c', A', cl, hvv, hcell, hst, htx, hn9, hbl, hb4⟩ := H.out.at_ hBk
      have e1 : A = some ⟨g, 0, none⟩ := by injection hvv
      subst e1
      clear hvv
      have NC := Lib.hid (refNeed_any w A' B.length cl (toStrs B) (by omega) hst (by rw [htx]; omega))
      rw [htx] at NC
      have EQ : Hid (q + need B = (((Bs.take (k + 1)).drop T).map need).sum) := by
        show _ = _
        have e : Bs.take (k + 1) = Bs.take k ++ [B] := by rw [List.take_add_one, hBk]; rfl
        have hlk : (Bs.take k).length = k := by rw [List.length_take]; have := EN.out; omega
        rw [e, List.drop_append_of_le_length (by rw [hlk]; exact hk0), List.map_append, List.sum_append, HQ.out]
        simp
      have hn9' : (need B : Int) ≤ 1209 := by omega
      generalize need B = z at *
      clear hBk hst htx hbl hn9
      go_wp2_with fail
      refine NC.out.mono ?_
      rintro e w' ⟨rfl, rfl⟩
      go_wp2_with fail
      go_round
      case rel => exact ⟨k + 1, q + z, by omega, by omega, by go_num, by go_num, EQ.out⟩
      case measure => simp [intOf]; omega
    · obtain rfl : k = N := by omega
      have EE : Hid (Z = q) := by
        show _ = _
        rw [EZ.out, HQ.out, List.take_of_length_le (by rw [← EN.out]; exact Nat.le_refl _)]
      go_wp2_with fail
      go_ret
      rw [EE.out]
      exact ⟨rfl, rfl⟩

set_option maxRecDepth 100000 in
theorem refTrim_any {w0 : World} (w : World) (r : Nat) (vL : Value) (vs : List Value) (ring T S : Nat) (Bs : List (List (List Nat))) (u : Int) (h : RLog w0 w r vL vs ring Bs T S) :
    Calls Try.prog 22 #[.pointer (some ⟨r, 0, none⟩), .int .i64 u] w fun e w' => e = .returned (.int .i64 (if u < 0 ∨ (S : Int) < u then 1 else 0)) ∧ RLog w0 w' r vL vs ring Bs (if u < 0 ∨ (S : Int) < u then T else max T u.toNat) S ∧ Only [r] w w' := by
  have H := Lib.hid h
  have c2 := h.held.cell 2
  have c3 := h.held.cell 3
  have f2 := h.held.frozen 2
  clear h
  go_enter Try.func22, Try.ntmps22
  by_cases h0 : u < 0
  · rw [if_pos (.inl h0), if_pos (.inl h0)]
    go_wp2_with fail
    go_ret
    exact ⟨rfl, H.out, Only.refl _ _⟩
  · by_cases h1 : (S : Int) < u
    · rw [if_pos (.inr h1), if_pos (.inr h1)]
      go_wp2_with fail
      go_ret
      exact ⟨rfl, H.out, Only.refl _ _⟩
    · have hn : ¬ (u < 0 ∨ (S : Int) < u) := by omega
      rw [if_neg hn, if_neg hn]
      by_cases h2 : (T : Int) < u
      · obtain ⟨U, hU⟩ : ∃ U : Nat, u = (U : Int) := ⟨u.toNat, by omega⟩
        subst hU
        have e : max T ((U : Int)).toNat = U := by omega
        rw [e]
        have HS := Lib.hid (H.out.stored 2 U (.inl rfl))
        clear hn e h0
        go_wp2_with fail
        go_ret
        exact ⟨rfl, by simpa using HS.out, (Only.refl _ _).setCell (.inl (by simp)) _⟩
      · have e : max T u.toNat = T := by omega
        rw [e]
        clear hn e
        go_wp2_with fail
        go_ret
        exact ⟨rfl, H.out, Only.refl _ _⟩

theorem txts_strV (l : List ByteArray) : (txts l).map strV = strVs l := by
  unfold txts strVs
  rw [List.map_map]
  refine List.map_congr_left fun s _ => ?_
  show Value.string (strB (nums s)) = _
  rw [strB_nums]
theorem row_base {w : World} {base base' : Nat} {e : TypeId} {size n : Nat} {v : Value} {xs : List Value} (h : w.ownsRow base' e size v n xs) (hb : base ≤ base') : w.ownsRow base e size v n xs := by
  refine ⟨h.1, ?_⟩
  rcases h.2 with h2 | ⟨g, cap, cur, h2, h3, h4⟩
  · exact .inl h2
  · exact .inr ⟨g, cap, cur, h2, Nat.le_trans hb h3, h4⟩
/-- What the document's Append answers. -/
def refApp (ring T : Nat) (Bs : List (List (List Nat))) (b : List (List Nat)) : Int × Int :=
  if Wal.good b = false then (0, 1) else if (ring : Int) - (((Bs.drop T).map need).sum : Nat) < (need b : Int) then (0, 12) else ((Bs.length : Int) + 1, 0)
/-- What it leaves. -/
def RefApp {w0 : World} (w : World) (r : Nat) (vL : Value) (vs : List Value) (ring T S : Nat) (Bs : List (List (List Nat))) (b : List (List Nat)) (e : Ending) (w' : World) : Prop :=
  e = .returned (.tuple #[.int .i64 (refApp ring T Bs b).1, .int .i64 (refApp ring T Bs b).2]) ∧ ∃ vL' vs', RLog w0 w' r vL' vs' ring (if (refApp ring T Bs b).2 = 0 then Bs ++ [b] else Bs) T S ∧ Only (r :: vL.ownBlock.toList) w w' ∧ ∀ x ∈ rowsFoot vL' vs', x ∈ rowsFoot vL vs ∨ w.heap.size ≤ x

set_option maxRecDepth 100000 in
set_option maxHeartbeats 1600000 in
theorem refAppend_any {w0 : World} (w : World) (r : Nat) (vL : Value) (vs : List Value) (ring T S : Nat) (Bs : List (List (List Nat))) (A : Option Addr) (n c : Nat) (l : List ByteArray) (h : RLog w0 w r vL vs ring Bs T S) (hr : ring ≤ 4096) (hT : T ≤ Bs.length) (hB : Bs.length ≤ 900000000)
    (hl : Strs w A n l) (hn : n ≤ 8796093022208) (hw0 : w0.heap.size ≤ w.heap.size) :
    Calls Try.prog 17 #[.pointer (some ⟨r, 0, none⟩), .slice A n c] w (RefApp (w0 := w0) w r vL vs ring T S Bs (txts l)) := by
  have H := Lib.hid h
  have HL := Lib.hid hl
  have hlen := Lib.hid hl.1
  have HW := Lib.hid hw0
  have RO := Lib.hid (refRoom_any w r vL vs ring T S Bs h hr hT (by omega))
  have hn9 : (n : Int) ≤ 8796093022208 := by omega
  have BAD : Hid (∀ z : Int, refApp ring T Bs (txts l) = (0, z) → z ≠ 0 → ∀ e w', e = Ending.returned (.tuple #[.int .i64 0, .int .i64 z]) → w = w' → RefApp (w0 := w0) w r vL vs ring T S Bs (txts l) e w') := fun z hz hz0 e w' he hw => by
    subst hw
    unfold RefApp
    rw [hz]
    refine ⟨he, vL, vs, ?_, Only.refl _ _, fun x hx => .inl hx⟩
    rw [if_neg hz0]
    exact H.out
  have EA : Hid (refApp ring T Bs (txts l) = if Wal.good (txts l) = false then (0, 1) else if (ring : Int) - (((Bs.drop T).map need).sum : Nat) < (need (txts l) : Int) then (0, 12) else ((Bs.length : Int) + 1, 0)) := rfl
  clear h hl hr hT hw0
  go_enter Try.func17, Try.ntmps17
  by_cases h0 : n = 0
  · subst h0
    have hg : Wal.good (txts l) = false := by
      have : l = [] := List.eq_nil_of_length_eq_zero hlen.out
      subst this
      rfl
    have E1 : Hid (refApp ring T Bs (txts l) = (0, 1)) := by show _ = _; rw [EA.out, if_pos hg]
    clear hg EA
    go_wp2_with fail
    go_ret2
    exact BAD.out 1 E1.out (by decide) _ _ rfl rfl
  · by_cases h1 : 1024 < n
    · have hg : Wal.good (txts l) = false := by
        unfold Wal.good
        rw [txts_length, hlen.out, decide_eq_false (by omega : ¬ n ≤ 1024), Bool.and_false]
      have E1 : Hid (refApp ring T Bs (txts l) = (0, 1)) := by show _ = _; rw [EA.out, if_pos hg]
      have h1' : (1024 : Int) < (n : Int) := by omega
      have h0' : ((n : Int) == 0) = false := by rw [beq_eq_false_iff_ne]; omega
      clear hg EA h0 h1
      go_wp2_with fail
      go_ret2
      exact BAD.out 1 E1.out (by decide) _ _ rfl rfl
    · have h1' : (n : Int) ≤ 1024 := by omega
      have h0' : ((n : Int) == 0) = false := by rw [beq_eq_false_iff_ne]; omega
      have h0'' : 1 ≤ n := by omega
      clear h0 h1
      go_wp2_with fail
      go_loop [6] (fun i => ∃ k : Nat, k ≤ n ∧ i = .int .i64 (k : Nat) ∧ Hid (∀ (j : Nat) (r : List Nat), j < k → (txts l)[j]? = some r → r.length ≤ 600)) (fun i => n - (intOf i).toNat)
      case atStart => exact ⟨0, by omega, rfl, fun j r hj => by omega⟩
      case round =>
        obtain ⟨k, hk, rfl, hs⟩ := hrel
        by_cases hlt : k < n
        · obtain ⟨b, off, s, rfl, _, hs1, hs2, hc, ht, _⟩ := HL.out.at_ hlt
          have TT := Lib.hid ht
          have hsz := Lib.hid (nums_length s)
          clear ht hs1
          by_cases hbig : 600 < s.size
          · have E1 : Hid (refApp ring T Bs (txts l) = (0, 1)) := by show _ = _; rw [EA.out, if_pos (good_take_bad TT.out (by rw [hsz.out]; exact hbig))]
            have hbig' : (600 : Int) < (s.size : Int) := by omega
            clear EA hbig
            go_wp2_with fail
            go_ret2
            exact BAD.out 1 E1.out (by decide) _ _ rfl rfl
          · have hbig' : (s.size : Int) ≤ 600 := by omega
            go_wp2_with fail
            go_round
            case rel => exact ⟨k + 1, by omega, by go_num, fun j r hj hr => by
              rcases Nat.lt_or_ge j k with h' | h'
              · exact hs.out j r h' hr
              · obtain rfl : j = k := by omega
                rw [TT.out] at hr
                injection hr with hr
                rw [← hr, hsz.out]
                omega⟩
            case measure => simp [intOf]; omega
        · obtain rfl : k = n := by omega
          have hg : Wal.good (txts l) = true := by
            rw [good_end (b := txts l) (fun j r hr => hs.out j r (by
              rcases Nat.lt_or_ge j k with h' | h'
              · exact h'
              · rw [List.getElem?_eq_none (by rw [txts_length, hlen.out]; exact h')] at hr; cases hr) hr), txts_length, hlen.out, decide_eq_true h0'', decide_eq_true (by omega : k ≤ 1024)]
            rfl
          have GS := Lib.hid (good_small hg)
          have NC := Lib.hid (refNeed_any w A k c l (by omega) HL.out (by have := GS.out.2.2.2.1; omega))
          have HG := Lib.hid hg
          obtain ⟨q, hq⟩ : ∃ q, q = need (txts l) := ⟨_, rfl⟩
          obtain ⟨Z, hZ⟩ : ∃ Z : Int, Z = (ring : Int) - (((Bs.drop T).map need).sum : Nat) := ⟨_, rfl⟩
          rw [← hq] at NC
          rw [← hZ] at RO
          have EA2 : Hid (refApp ring T Bs (txts l) = if Z < (q : Int) then (0, 12) else ((Bs.length : Int) + 1, 0)) := by show _ = _; rw [EA.out, if_neg (by rw [hg]; simp), hZ, hq]
          clear hg hq hZ EA
          go_wp2_with fail
          refine NC.out.mono ?_
          rintro e w' ⟨rfl, rfl⟩
          go_wp2_with fail
          refine RO.out.mono ?_
          rintro e w' ⟨rfl, rfl⟩
          by_cases hlt2 : Z < (q : Int)
          · have E1 : Hid (refApp ring T Bs (txts l) = (0, 12)) := by show _ = _; rw [EA2.out, if_pos hlt2]
            go_wp2_with fail
            go_ret2
            exact BAD.out 12 E1.out (by decide) _ _ rfl rfl
          · have E1 : Hid (refApp ring T Bs (txts l) = ((Bs.length : Int) + 1, 0)) := by show _ = _; rw [EA2.out, if_neg hlt2]
            have hk4 : 0 + k ≤ 8796093022208 := by omega
            go_upto_region 12 with (refine wpList_append_strs rfl (o := ⟨some 35, _, _, _, _, _⟩) (.tmp 33) (.tmp 34) w.heap.size rfl (.slice none 0 0) 0 [] rfl (World.ownsRow_nil _ _ _ _) A k c l rfl HL.out hk4 (Nat.le_refl _) ?_; intro v2 w2 r1 r2 r3)
            rw [Nat.zero_add, List.nil_append] at r1
            obtain ⟨A2, c2', rfl⟩ := own_slice r1
            have B2 : Hid (Below w.heap.size w w2) := row_grown (World.ownsRow_nil w w.heap.size 9 1) (Below.refl _ _) r2 (Nat.le_refl _)
            have BA : Hid (Below w.heap.size w (w2.alloc (.cells #[.slice A2 k c2'] 36))) := B2.out.alloc B2.out.size _
            have LA := Lib.hid (H.out.under BA.out)
            have R1 : Hid ((w2.alloc (.cells #[.slice A2 k c2'] 36)).ownsRow w.heap.size 9 1 (.slice A2 k c2') k (strVs l)) := (Only.of_below (F := []) ((Below.refl w2.heap.size w2).alloc (Nat.le_refl _) _)).row r1 (fun _ _ hx => by cases hx)
            have QA : Hid ((w2.alloc (.cells #[.slice A2 k c2'] 36)).cell? ⟨w2.heap.size, 0, none⟩ = some (.slice A2 k c2')) := (Held.new w2 36 #[.slice A2 k c2'] rfl).cell 0
            have LE : Hid (w0.heap.size ≤ (w2.alloc (.cells #[.slice A2 k c2'] 36)).heap.size ∧ w.heap.size ≤ (w2.alloc (.cells #[.slice A2 k c2'] 36)).heap.size) := ⟨Nat.le_trans HW.out BA.out.size, BA.out.size⟩
            have g1 : w2.cell? ⟨r, 1, none⟩ = some vL := (B2.out.cell (p := ⟨r, 1, none⟩) H.out.held.lt).trans (H.out.held.cell 1)
            have hkB : Bs.length ≤ 1000000000 := by omega
            clear r1 r2 r3 NC RO BAD EA2 hk4
            go_wp2_with (refine wpList_append_batch rfl (o := ⟨some 43, _, _, _, _, _⟩) (.tmp 40) (.tmp 42) w0.heap.size rfl vL Bs.length vs rfl LA.out.rows.row w2.heap.size 1 A2 k c2' rfl QA.out hkB LE.out.1 ?_; intro v4 w4 s1 s2 s3; obtain ⟨A4, c4, rfl⟩ := own_slice s1; have O4 := Lib.hid ((Only.refl vL.ownBlock.toList (w2.alloc (.cells #[.slice A2 k c2'] 36))).grown s2 (fun k hk => .inl (by simp [hk]))); have HD := Lib.hid (LA.out.held.only O4.out (fun hm => LA.out.apart (mem_rowsFoot.2 (.inl (by simpa using hm))))); have d1 := HD.out.cell 1; have x1 := HD.out.frozen 1; have S1 := Lib.hid s1; have S2 := Lib.hid s2; have S3 := Lib.hid s3; clear s1 s2 s3)
            go_ret2
            have PU := RowsAt.push (B := txts l) LA.out.rows (by rw [txts_strV, txts_length, hlen.out]; exact row_base R1.out HW.out) S1.out S2.out
            have o5 : Only [r] w4 (w4.setCell ⟨r, 1, none⟩ (.slice A4 (Bs.length + 1) c4)) := (Only.refl _ w4).setCell (.inl (by simp)) _
            have hfoot : ∀ x ∈ rowsFoot (.slice A4 (Bs.length + 1) c4) (vs ++ [.slice A2 k c2']), x ∈ rowsFoot vL vs ∨ w.heap.size ≤ x := fun x hx => by
              rcases rowsFoot_push hx S3.out with h1 | h1 | h1
              · exact .inl h1
              · exact .inr (R1.out.lt x h1).1
              · rw [h1]
                exact .inr LE.out.2
            unfold RefApp
            rw [E1.out]
            refine ⟨rfl, _, vs ++ [.slice A2 k c2'], ?_, ((Only.of_below (F := r :: vL.ownBlock.toList) BA.out).trans O4.out (fun x hx => .inl (List.mem_cons_of_mem _ hx))).trans o5 (fun x hx => .inl (by
              obtain rfl : x = r := by simpa using hx
              exact List.mem_cons_self)), hfoot⟩
            rw [if_pos rfl]
            refine ⟨?_, PU.only o5 (fun x hx hm => ?_), H.out.new, fun B hB => ?_⟩
            · have h9 := HD.out.set_ 1 (.slice A4 (Bs.length + 1) c4)
              simpa using h9
            · obtain rfl : x = r := by simpa using hm
              rcases hfoot x hx with h1 | h1
              · exact H.out.apart h1
              · have := H.out.held.lt; omega
            · rcases List.mem_append.1 hB with h1 | h1
              · exact H.out.good B h1
              · have e : B = txts l := by simpa using h1
                rw [e]
                exact ⟨HG.out, txts_bytes l⟩
end Go.Proofs.Ytacpgahbfmpiiaa

namespace Go.Proofs.Ytacpgahbfmpiiaa
open Go.RowKit Wal

/-- The log beside the document's: Bs are all batches, T are trimmed, S synced; rec records were appended at most. -/
structure MS (s : LS) (m : Dsk.DM) (at0 R rec : Nat) (Bs : List (List (List Nat))) (T S : Nat) : Prop where
  inv : Wal.Inv s m (Bs.drop T)
  fuel : m.fuel = -1
  wait : m.wait.length ≤ 1209 * rec
  frm : s.frm = at0
  ring : s.ring = R - 1
  first : s.first = T + 1
  synced : s.synced = S
  size : m.dur.length = at0 + R + 2
  count : Bs.length ≤ rec
  ts : T ≤ S ∧ S ≤ Bs.length
  rec_ : rec ≤ 131072
section
variable {s : LS} {m : Dsk.DM} {at0 R rec T S : Nat} {Bs : List (List (List Nat))}
theorem MS.last (h : MS s m at0 R rec Bs T S) : s.last = (Bs.length : Int) := by
  rw [h.inv.last, h.first, List.length_drop]
  have := h.ts
  omega
theorem MS.room (h : MS s m at0 R rec Bs T S) : s.room = ((R - 1 : Nat) : Int) - (((Bs.drop T).map need).sum : Nat) := by
  unfold LS.room
  rw [h.inv.needs, h.ring]
theorem MS.append (h : MS s m at0 R rec Bs T S) {b : List (List Nat)} (hb : ∀ r ∈ b, ∀ x ∈ r, x < 256) (hr : rec + b.length ≤ 131072) :
    ∃ z1 z2 s' m', appendO s m b = (z1, z2, s', m') ∧ refApp (R - 1) T Bs b = (z1, z2) ∧ MS s' m' at0 R (rec + b.length) (if z2 = 0 then Bs ++ [b] else Bs) T S := by
  have hrm := h.room
  have hts := h.ts
  have hw := h.wait
  have hc := h.count
  have same : ∀ z : Int, z ≠ 0 → MS s m at0 R (rec + b.length) (if z = 0 then Bs ++ [b] else Bs) T S := fun z hz => by
    rw [if_neg hz]
    exact ⟨h.inv, h.fuel, by omega, h.frm, h.ring, h.first, h.synced, h.size, by omega, h.ts, hr⟩
  unfold refApp
  by_cases hg : Wal.good b = true
  · rw [if_neg (by rw [hg]; simp), ← hrm]
    by_cases hf : s.room < (need b : Int)
    · rw [if_pos hf]
      exact ⟨0, 12, s, m, h.inv.append_full hg hf, rfl, same 12 (by decide)⟩
    · rw [if_neg hf]
      rcases h.inv.append hg hb (by omega) (by rw [h.fuel]; omega) with ⟨m', e, i', d', f', w', _⟩ | ⟨_, _, _, hf9, _⟩
      · refine ⟨_, 0, _, m', e, by rw [h.last], ?_⟩
        rw [if_pos rfl]
        have hn := need_of_good hg
        have h1 : 1 ≤ b.length := by
          unfold Wal.good at hg
          simp only [Bool.and_eq_true, decide_eq_true_eq] at hg
          exact hg.1.2
        refine ⟨?_, by rw [f', h.fuel]; rfl, by omega, h.frm, h.ring, h.first, h.synced, by rw [d']; exact h.size, ?_, ?_, hr⟩
        · rw [List.drop_append_of_le_length (by omega)]
          exact i'
        · rw [List.length_append]
          simp
          omega
        · rw [List.length_append]
          simp
          omega
      · exact absurd h.fuel hf9
  · rw [if_pos (by simpa using hg)]
    exact ⟨0, 1, s, m, h.inv.append_bad (by simpa using hg), rfl, same 1 (by decide)⟩
/-- More records may have been asked for. -/
theorem MS.more (h : MS s m at0 R rec Bs T S) (k : Nat) (hk : rec + k ≤ 131072) : MS s m at0 R (rec + k) Bs T S :=
  ⟨h.inv, h.fuel, by have := h.wait; omega, h.frm, h.ring, h.first, h.synced, h.size, by have := h.count; omega, h.ts, hk⟩
theorem MS.sync (h : MS s m at0 R rec Bs T S) : ∃ s' m', syncO s m = (0, s', m') ∧ MS s' m' at0 R rec Bs T Bs.length := by
  have hts := h.ts
  rcases h.inv.sync with ⟨m', e, i', w', d', f', _⟩ | ⟨_, _, _, hf9, _⟩
  · refine ⟨_, m', e, ⟨i', ?_, by have := h.wait; omega, h.frm, h.ring, h.first, ?_, by rw [d']; exact h.size, h.count, by omega, h.rec_⟩⟩
    · rw [f', h.fuel]
      split <;> rfl
    · show s.first + (Bs.drop T).length - 1 = Bs.length
      rw [h.first, List.length_drop]
      omega
  · exact absurd h.fuel hf9
theorem MS.trim (h : MS s m at0 R rec Bs T S) (u : Int) : ∃ s' m', trimO s m u = (if u < 0 ∨ (S : Int) < u then 1 else 0, s', m') ∧ MS s' m' at0 R rec Bs (if u < 0 ∨ (S : Int) < u then T else max T u.toNat) S := by
  have hts := h.ts
  have hsy : (s.synced : Int) = (S : Int) := by rw [h.synced]
  by_cases hb : u < 0 ∨ (S : Int) < u
  · rw [if_pos hb, if_pos hb]
    exact ⟨s, m, h.inv.trim_bad (by rw [hsy]; exact hb), h⟩
  · rw [if_neg hb, if_neg hb]
    have hb1 : 0 ≤ u ∧ u ≤ (S : Int) := by omega
    by_cases hu : u < (s.first : Int)
    · have e : max T u.toNat = T := by rw [h.first] at hu; omega
      rw [e]
      exact ⟨s, m, h.inv.trim_none hb1.1 hu (by rw [hsy]; exact hb1.2), h⟩
    · obtain ⟨k, hk⟩ : ∃ k : Nat, u = (s.first : Int) + k - 1 ∧ 1 ≤ k := ⟨(u - s.first + 1).toNat, by omega, by omega⟩
      have hkT : max T u.toNat = T + k := by rw [h.first] at hk; omega
      have hfi := h.first
      have hrec := h.rec_
      have hcnt := h.count
      rcases h.inv.trim (k := k) hk.2 (by rw [h.synced]; omega) (by omega) with ⟨m', s', e, es, i', w', d', f'⟩ | ⟨_, _, _, hf9, _⟩
      · rw [← hk.1] at e
        refine ⟨s', m', e, ?_⟩
        rw [hkT]
        refine ⟨?_, by rw [f', h.fuel]; rfl, by rw [w']; exact Nat.zero_le _, by rw [es]; exact h.frm, by rw [es]; exact h.ring, by rw [es, ]; show s.first + k = T + k + 1; omega, by rw [es]; exact h.synced, by rw [d']; exact h.size, h.count, by omega, h.rec_⟩
        rw [List.drop_drop] at i'
        exact i'
      · exact absurd h.fuel hf9
theorem MS.reopen (h : MS s m at0 R rec Bs T S) (hm : m.dur.length ≤ 4096) (hR : 2 ≤ R) : Wal.Found at0 (R - 1) (holds m.seen) s.start (T + 1) S ((Bs.take S).drop T) ∧ MS (openS at0 (R - 1) s.start (T + 1) S ((Bs.take S).drop T)) m at0 R rec (Bs.take S) T S := by
  have hts := h.ts
  have hrec := h.rec_
  have hcnt := h.count
  have e : (Bs.drop T).take (S + 1 - (T + 1)) = (Bs.take S).drop T := by
    rw [List.drop_take]
    congr 1
    omega
  have hs : ∀ kp, Wal.Found at0 (R - 1) (holds (Dsk.crashD m.wait kp m.dur)) s.start (T + 1) S ((Bs.take S).drop T) := fun kp => by
    have h9 := h.inv.safe kp
    rw [h.frm, h.ring, h.first, h.synced, e] at h9
    exact h9
  refine ⟨?_, ?_⟩
  · have := hs (List.replicate m.wait.length true)
    rwa [← Dsk.apply_eq_crashD] at this
  · refine ⟨inv_open hm h.inv.alive (by rw [h.size]; omega) (by omega) hs, h.fuel, h.wait, rfl, rfl, rfl, rfl, h.size, ?_, ?_, h.rec_⟩
    · rw [List.length_take]; omega
    · rw [List.length_take]; omega
end
/-- How many records a script has. -/
def recs (l : List WOp) : Nat := (l.map fun o => o.batch.length).sum
theorem recs_snoc (l : List WOp) (o : WOp) : recs (l ++ [o]) = recs l + o.batch.length := by simp [recs]
theorem recs_weighs (l : List WOp) : 8 * recs l ≤ weighsAll l := by
  unfold recs weighsAll
  induction l with
  | nil => simp
  | cons o r ih =>
    have := weighs_count o.batch
    simp only [List.map_cons, List.sum_cons] at ih ⊢
    omega
theorem weighsAll_take (l : List WOp) (k : Nat) : weighsAll (l.take k) ≤ weighsAll l := by
  unfold weighsAll
  rw [List.map_take]
  exact sum_take_le _ k
theorem bodyLen_weighs (l : List ByteArray) : bodyLen (txts l) ≤ weighs l := by
  induction l with
  | nil => simp [txts, bodyLen, weighs]
  | cons s r ih =>
    have hs : (nums s).length = s.size := nums_length s
    simp only [txts, bodyLen, weighs, List.map_cons, List.sum_cons] at ih ⊢
    omega
theorem recs_take (l : List WOp) (k : Nat) : recs (l.take k) ≤ recs l := by
  unfold recs
  rw [List.map_take]
  exact sum_take_le _ k
end Go.Proofs.Ytacpgahbfmpiiaa
