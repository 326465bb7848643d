/-
  wal: what the reader of batches wants: its state in memory, the bytes of the sectors that it reads, a sector appended to a row of bytes. · wal: the contract of the reader's take.
-/
import Derived.Test.YtkajneeihhobhaaGreatMSync
namespace Go.Proofs.YtkajneeihhobhaaGreat
open Go.RowKit Go.Shelf Wal

set_option maxRecDepth 100000 in
/-- Some bytes appended to a row of bytes that lies anywhere. -/
theorem run_append_more (w : World) (ty : TypeId) (v : Value) (l : List Nat) (h : BRow w v l) (g off m c : Nat) (news : List Nat) (hb : Bts w (some ⟨g, off, none⟩) m news) (hm : 0 < m) (hl : l.length + m ≤ 4000000000) :
    ∃ v' w', (Builtin.append_ #[56, 56] ty #[v, .slice (some ⟨g, off, none⟩) m c]).run Tryz.prog w = .ok v' w' ∧ BRow w' v' (l ++ news) ∧ w.grownBy w' v.ownBlock ∧ (∀ y, v'.ownBlock = some y → v.ownBlock = some y ∨ w.heap.size ≤ y) := by
  obtain ⟨i, hi, hz, hsize, hby⟩ := info_parts info5
  obtain ⟨hlen, hlt, hc⟩ := hb
  obtain ⟨v', w', h1, h2, h3, h4⟩ := run_append_srow (P := Tryz.prog) w 56 ty 5 i (.int .u8 0) 1 1 Tryz.underlying56 hi hz hsize hby rfl (by omega) v l.length (l.map u8v) h.1 ⟨g, off, none⟩ m c (news.map u8v) (by rw [List.length_map, hlen, Nat.mul_one])
    (fun j u hu => by
      obtain ⟨b', off', e, _, hcell⟩ := hc hm
      injection e with e
      injection e with e1 e2 _
      subst e1 e2
      rw [List.getElem?_map] at hu
      obtain ⟨x, hx, rfl⟩ := Option.map_eq_some_iff.1 hu
      have hj : j < m := by rw [← hlen]; exact (List.getElem?_eq_some_iff.1 hx).1
      have h9 := hcell j hj
      rw [List.getD_eq_getElem?_getD, hx] at h9
      rw [Option.getD_some] at h9
      have e9 : ({ block := g, off := off, spot := none } : Addr).add j = ⟨g, off + j, none⟩ := by
        unfold Addr.add
        split
        · rename_i h0
          rw [h0]
          rfl
        · rfl
      rw [e9]
      exact h9) (fun u hu => by
        obtain ⟨x, _, rfl⟩ := List.mem_map.1 hu
        rfl) (by simp only [maxLen]; omega) (by omega)
  refine ⟨v', w', h1, ⟨?_, fun y hy => ?_⟩, h3, h4⟩
  · rw [List.length_append, List.map_append, hlen]
    exact h2
  · rcases List.mem_append.1 hy with hy | hy
    · exact h.2 y hy
    · exact hlt y hy
theorem wpList_append_more {ops : Array Oper} {rest : List Oper} {o : Oper} {a : Act} {w : World} {Q : Exit → Act → World → Prop} (hgd : o.guard = none) (s x : Operand)
    (ho : o.op = .call { callee := .builtin .append, args := #[s, x], argTypes := #[56, 56] }) (v : Value) (l : List Nat) (hs : a.eval s = v) (hr : BRow w v l) (g off m c : Nat) (news : List Nat) (hx : a.eval x = .slice (some ⟨g, off, none⟩) m c)
    (hb : Bts w (some ⟨g, off, none⟩) m news) (hm : 0 < m) (hl : l.length + m ≤ 4000000000)
    (h : ∀ v' w', BRow w' v' (l ++ news) → w.grownBy w' v.ownBlock → (∀ y, v'.ownBlock = some y → v.ownBlock = some y ∨ w.heap.size ≤ y) → wpList Tryz.prog ops Q rest (a.put o.dst v') w') : wpList Tryz.prog ops Q (o :: rest) a w := by
  obtain ⟨v', w', h1, h2, h3, h4⟩ := run_append_more w o.type v l hr g off m c news hb hm hl
  refine wpList_plain hgd fun _ hK => ?_
  unfold Oper.wp execOp
  simp only [ho, resolve, invoke, builtin, Sem.run_bind, Sem.run_pure, Result.andThen_ok, List.map_toArray, List.map_cons, List.map_nil, hs, hx, h1]
  exact hK _ _ (h v' w' h2 h3 h4)

namespace Wal
/-- A sector of the ring as the reader takes it in. -/
def inSect (s : LS) (m : Dsk.DM) (mask p : Nat) : List Nat := turn mask (sec (m.seen.getD (sector s p) []))
def inFlat (s : LS) (m : Dsk.DM) (mask p j : Nat) : List Nat := (List.range j).flatMap fun i => inSect s m mask (p + i)
theorem inSect_length (s : LS) (m : Dsk.DM) (mask p : Nat) : (inSect s m mask p).length = 512 := by
  unfold inSect
  rw [turn_length mask (by rw [sec_length]; omega), sec_length]
theorem inFlat_succ (s : LS) (m : Dsk.DM) (mask p j : Nat) : inFlat s m mask p (j + 1) = inFlat s m mask p j ++ inSect s m mask (p + j) := by
  unfold inFlat
  rw [List.range_succ, List.flatMap_append]
  simp
theorem inFlat_length (s : LS) (m : Dsk.DM) (mask p j : Nat) : (inFlat s m mask p j).length = 512 * j := by
  induction j with
  | zero => rfl
  | succ j ih => rw [inFlat_succ, List.length_append, ih, inSect_length]; omega
theorem patch_turn (mask : Nat) (L : List Nat) : patch L 0 (num 2 (unnum ((L.drop 0).take 2) ^^^ mask)) = turn mask L := by
  unfold patch turn
  rw [num_length]
  simp
end Wal

/-- A reader of the log at b in block br: the sector that comes next, the mask, the bytes that were read and not taken. -/
structure ReadsAt (w : World) (br b p mask : Nat) (v : Value) (l : List Nat) : Prop where
  held : Held w br 175 #[.pointer (some ⟨b, 0, none⟩), .int .i64 (p : Int), .int .u64 (mask : Int), v]
  row : BRow w v l
  far : ∀ g, v.ownBlock = some g → g ≠ br
/-- What reading leaves: the log and its disk as they were; only the reader and its row, and new blocks, have turned. -/
structure ReadKept (w : World) (b : Nat) (G : List Nat) (s : LS) (d : Nat) (F : List Nat) (m : Dsk.DM) (br p mask : Nat) (v : Value) (l : List Nat) (v' : Value) (w' : World) : Prop where
  ld : LD w' b G s d F m
  at_ : ReadsAt w' br b p mask v' l
  only : Only (br :: v.ownBlock.toList) w w'
  own : ∀ y, v'.ownBlock = some y → v.ownBlock = some y ∨ w.heap.size ≤ y
section
variable {w wr w' : World} {b d : Nat} {s : LS} {G F : List Nat} {m : Dsk.DM} {br p mask : Nat} {v vi v' : Value} {l l' : List Nat}
/-- Only a block turned that was not there. -/
theorem ReadKept.fresh {g : Nat} (h : ReadKept w b G s d F m br p mask v l vi wr) (k : Only [g] wr w') (hg : wr.heap.size ≤ g) : ReadKept w b G s d F m br p mask v l vi w' := by
  have n1 : ∀ x, x < wr.heap.size → x ∉ [g] := fun x hx e => by
    obtain rfl : x = g := by simpa using e
    omega
  exact ⟨h.ld.only k (fun x hx => n1 x (h.ld.glt x hx)) (fun x hx => n1 x (h.ld.flt x hx)), ⟨h.at_.held.only k (n1 _ h.at_.held.lt), h.at_.row.only k (fun y hy => n1 y (h.at_.row.lt y hy)), h.at_.far⟩,
    h.only.trans k (fun x hx => .inr (by
      obtain rfl : x = g := by simpa using hx
      exact Nat.le_trans h.only.size hg)), h.own⟩
theorem ReadKept.under (h : ReadKept w b G s d F m br p mask v l vi wr) (k : Below wr.heap.size wr w') : ReadKept w b G s d F m br p mask v l vi w' :=
  h.fresh (g := wr.heap.size) (Only.of_below k) (Nat.le_refl _)
/-- The bytes read and not taken are others, in the row's block or a new one. -/
theorem ReadKept.rowed {w2 : World} (h : ReadKept w b G s d F m br p mask v l vi wr) (h0 : LD w b G s d F m) (hbr : br ∉ G ++ F) (hv : ∀ y, v.ownBlock = some y → y ∉ G ++ F) (hw2 : BRow w2 v' l') (o1 : Only vi.ownBlock.toList wr w2)
    (hb : ∀ y, v'.ownBlock = some y → vi.ownBlock = some y ∨ wr.heap.size ≤ y) : ReadKept w b G s d F m br p mask v l' v' (w2.setCell ⟨br, 3, none⟩ v') := by
  have o2 : Only [br] w2 (w2.setCell ⟨br, 3, none⟩ v') := (Only.refl _ w2).setCell (.inl (by simp)) _
  have hvi : ∀ y, vi.ownBlock = some y → y ∉ G ++ F := fun y hy hm => by
    rcases h.own y hy with h1 | h1
    · exact hv y h1 hm
    · rcases List.mem_append.1 hm with hm | hm
      · have := h0.glt y hm; omega
      · have := h0.flt y hm; omega
  have nb : br ∉ vi.ownBlock.toList := fun hm => h.at_.far br (by simpa using hm) rfl
  have nn : ∀ x ∈ G ++ F, x ∉ vi.ownBlock.toList := fun x hx hm => hvi x (by simpa using hm) hx
  have nr : ∀ x ∈ G ++ F, x ∉ [br] := fun x hx hm => hbr (by
    obtain rfl : x = br := by simpa using hm
    exact hx)
  have l2 : LD w2 b G s d F m := h.ld.only o1 (fun x hx => nn x (List.mem_append.2 (.inl hx))) (fun x hx => nn x (List.mem_append.2 (.inr hx)))
  have far : ∀ y, v'.ownBlock = some y → y ≠ br := fun y hy => by
    rcases hb y hy with h1 | h1
    · exact h.at_.far y h1
    · have := h.at_.held.lt; omega
  refine ⟨l2.only o2 (fun x hx => nr x (List.mem_append.2 (.inl hx))) (fun x hx => nr x (List.mem_append.2 (.inr hx))), ⟨(h.at_.held.only o1 nb).set_ 3 v', hw2.only o2 (fun y hy hm => far y hy (by simpa using hm)), far⟩,
    (h.only.trans o1 (fun x hx => ?_)).trans o2 (fun x hx => .inl (by
      obtain rfl : x = br := by simpa using hx
      exact List.mem_cons_self)), fun y hy => ?_⟩
  · have hx' : vi.ownBlock = some x := by simpa using hx
    rcases h.own x hx' with h1 | h1
    · exact .inl (List.mem_cons_of_mem _ (by simp [h1]))
    · exact .inr h1
  · rcases hb y hy with h1 | h1
    · exact h.own y h1
    · exact .inr (Nat.le_trans h.only.size h1)
/-- The place is another. -/
theorem ReadKept.placed (h : ReadKept w b G s d F m br p mask v l vi wr) (hbr : br ∉ G ++ F) (q : Nat) : ReadKept w b G s d F m br q mask v l vi (wr.setCell ⟨br, 1, none⟩ (.int .i64 (q : Int))) := by
  have o2 : Only [br] wr (wr.setCell ⟨br, 1, none⟩ (.int .i64 (q : Int))) := (Only.refl _ wr).setCell (.inl (by simp)) _
  have nr : ∀ x ∈ G ++ F, x ∉ [br] := fun x hx hm => hbr (by
    obtain rfl : x = br := by simpa using hm
    exact hx)
  exact ⟨h.ld.only o2 (fun x hx => nr x (List.mem_append.2 (.inl hx))) (fun x hx => nr x (List.mem_append.2 (.inr hx))), ⟨h.at_.held.set_ 1 _, h.at_.row.only o2 (fun y hy hm => h.at_.far y hy (by simpa using hm)), h.at_.far⟩,
    h.only.trans o2 (fun x hx => .inl (by
      obtain rfl : x = br := by simpa using hx
      exact List.mem_cons_self)), h.own⟩
end
end Go.Proofs.YtkajneeihhobhaaGreat

namespace Go.Proofs.YtkajneeihhobhaaGreat
open Go.RowKit Go.Shelf Wal

set_option maxRecDepth 100000 in
set_option maxHeartbeats 3200000 in
theorem take_any (w : World) (b d : Nat) (s : LS) (G F : List Nat) (m : Dsk.DM) (br p mask : Nat) (v : Value) (l : List Nat) (n j : Nat) (h : LD w b G s d F m) (hr : ReadsAt w br b p mask v l) (hbr : br ∉ G ++ F) (hv : ∀ y, v.ownBlock = some y → y ∉ G ++ F) (hs : s.Ok)
    (hm : mask < 18446744073709551616) (_hl : l.length ≤ 3000000000) (hn : n ≤ 600) (hd : m.dead = false) (hring : ∀ i, sector s i < m.dur.length) (hj : n ≤ l.length + 512 * j) (hj' : ∀ i, i < j → l.length + 512 * i < n) (hp : p + j ≤ s.ring) :
    Calls Tryz.prog 105 #[.pointer (some ⟨br, 0, none⟩), .int .i64 (n : Int)] w fun e w' => ∃ A c v', e = .returned (.tuple #[.slice A n c, .int .i64 0]) ∧ n ≤ c ∧ (∀ y, A = some y → y.block ≠ br ∧ (v.ownBlock = some y.block ∨ w.heap.size ≤ y.block)) ∧ Bts w' A n ((l ++ inFlat s m mask p j).take n) ∧
      ReadKept w b G s d F m br (p + j) mask v ((l ++ inFlat s m mask p j).drop n) v' w' := by
  have H := Lib.hid h
  have HR := Lib.hid hr
  have HB := Lib.hid hbr
  have HV := Lib.hid hv
  have HS := Lib.hid hs
  have HG := Lib.hid hring
  have HJ := Lib.hid hj'
  have HD := Lib.hid hd
  clear h hr hbr hv hs hring hj' hd
  have hp9 : p + j ≤ 4096 := by have := HS.out.ring; omega
  go_enter Tryz.func105, Tryz.ntmps105
  go_wp2_with fail
  go_loopw [] (fun wr => ∃ i vi, i ≤ j ∧ ReadKept w b G s d F m br (p + i) mask v (l ++ inFlat s m mask p i) vi wr) (fun wr => j + p - ((wr.cell? ⟨br, 1, none⟩).elim 0 fun x => (intOf x).toNat))
  case atStart => exact ⟨0, v, by omega, H.out, by simpa [inFlat] using HR.out, Only.refl _ _, fun _ h => .inl h⟩
  case round =>
    obtain ⟨i, vi, hi, hk⟩ := hrel
    obtain ⟨L, hLe⟩ : ∃ L, L = l ++ inFlat s m mask p i := ⟨_, rfl⟩
    have EL := Lib.hid hLe
    have LL : Hid (L.length = l.length + 512 * i) := by show _ = _; rw [hLe, List.length_append, inFlat_length]
    rw [← hLe] at hk
    obtain ⟨P, hP⟩ : ∃ P, P = p + i := ⟨_, rfl⟩
    have EP := Lib.hid hP
    rw [← hP] at hk
    obtain ⟨A, c, hvi, tb⟩ := hk.at_.row.form
    obtain ⟨z, hz⟩ : ∃ z, z = L.length := ⟨_, rfl⟩
    have EZ := Lib.hid hz
    rw [← hz] at hvi tb LL
    subst hvi
    clear hLe hP hz
    have KP := Lib.hid hk
    have TB := Lib.hid tb
    have b0 := hk.at_.held.cell 0
    have b1 := hk.at_.held.cell 1
    have b2 := hk.at_.held.cell 2
    have b3 := hk.at_.held.cell 3
    have g1 := hk.at_.held.frozen 1
    have g3 := hk.at_.held.frozen 3
    clear hk tb
    by_cases hlt : i < j
    · have hlen := HJ.out i hlt
      have h9 : (z : Int) < (n : Int) := by have := LL.out; omega
      have h9' : decide ((z : Int) < (n : Int)) = true := decide_eq_true h9
      have hP9 : P ≤ 4096 := by have := EP.out; omega
      have hPr : P < s.ring := by have := EP.out; omega
      obtain ⟨vn, hlog, _⟩ := KP.out.ld.log
      have x2 := hlog.c2
      have hne : ((P : Int) == (s.ring : Int)) = false := by simp; omega
      clear hlog
      go_upto_region 2 with fail
      go_quiet (fail)
      go_upto_region 4 with fail
      obtain ⟨wa, hwa⟩ : ∃ wa, wa = wr.drewN nq := ⟨_, rfl⟩
      have KA : Hid (ReadKept w b G s d F m br P mask v L (.slice A z c) wa) := by rw [hwa]; exact KP.out.fresh (g := wr.heap.size) ((Only.refl _ wr).drewN nq) (Nat.le_refl _)
      rw [← hwa]
      have HSZ : Hid (w.heap.size ≤ wa.heap.size) := KA.out.only.size
      have MB : Hid (wr.cell? ⟨br, 1, none⟩ = some (.int .i64 (P : Int))) := b1
      clear hwa KP TB b0 b1 b2 b3 g1 g3 x2
      have b0 := KA.out.at_.held.cell 0
      have b1 := KA.out.at_.held.cell 1
      obtain ⟨vn, hlog, _⟩ := KA.out.ld.log
      have x0 := hlog.c0
      have C1 := Lib.hid (sector_any wa.drew b d vn s P (hlog.only ((Only.refl [] wa).drew) (fun _ _ hx => by cases hx)) HS.out.frm HS.out.ring HS.out.ring0 (by have := HS.out.start; have := HS.out.ring; omega) (by omega))
      have lt1 := hlog.lt
      clear hlog
      obtain ⟨D, hD⟩ : ∃ D, D = sec (m.seen.getD (sector s P) []) := ⟨_, rfl⟩
      have ED := Lib.hid hD
      have C2 : Hid (∀ k, Calls Tryz.prog 74 #[.pointer (some ⟨d, 0, none⟩), .int .i64 (sector s P : Nat)] (wa.drewN k) fun e w' => ∃ v, e = .returned (.tuple #[v, .int .i64 0]) ∧ Fresh512 (wa.drewN k) D v w') := fun k => by
        refine (read_any (wa.drewN k) d F m (sector s P : Nat) (KA.out.ld.drewN k).disk).mono ?_
        intro e w' ht
        have := ht.ok (by unfold Dsk.DM.readErr; rw [HD.out, if_neg (by simp), if_neg (by have := HG.out P; omega)])
        rw [Int.toNat_natCast, ← hD] at this
        exact this
      clear hD
      have bl := KA.out.at_.held.lt
      refine wp_region_noPanic ?_
      refine wp_region_held_drew (S := fun w' => w'.cell? ⟨br, 0, none⟩ = some (.pointer (some ⟨b, 0, none⟩)) ∧ w'.cell? ⟨br, 1, none⟩ = some (.int .i64 (P : Int)) ∧ w'.cell? ⟨b, 0, none⟩ = some (.pointer (some ⟨d, 0, none⟩))) (by kernel_rfl) ⟨b0, b1, x0⟩ (fun hHeld => ?_)
      refine take_ (i := 0) (v := ?_) 29 rfl rfl (by kernel_rfl) (by kernel_rfl) (by kernel_rfl) (fun _ _ _ h => h) (Or.inl ⟨by rfl, ?_⟩) (by assumption) ?_
      rotate_left
      · (intro wS hSw; (try dsimp only at hSw); go_simp; try with_reducible rfl)
      simp only [Act.put, List.setIfInBounds_toArray, List.set_cons_zero, List.set_cons_succ]
      refine take_ (i := 1) (v := ?_) 30 rfl rfl (by kernel_rfl) (by kernel_rfl) (by kernel_rfl) (fun _ _ _ h => h) (Or.inl ⟨by rfl, ?_⟩) (by assumption) ?_
      rotate_left
      · (intro wS hSw; (try dsimp only at hSw); go_simp; try with_reducible rfl)
      simp only [Act.put, List.setIfInBounds_toArray, List.set_cons_zero, List.set_cons_succ]
      refine take_ (i := 2) (v := ?_) 31 rfl rfl (by kernel_rfl) (by kernel_rfl) (by kernel_rfl) (fun _ _ _ h => h) (Or.inl ⟨by rfl, ?_⟩) (by assumption) ?_
      rotate_left
      · (intro wS hSw; (try dsimp only at hSw); go_simp; try with_reducible rfl)
      simp only [Act.put, List.setIfInBounds_toArray, List.set_cons_zero, List.set_cons_succ]
      refine take_ (i := 3) (v := ?_) 32 rfl rfl (by kernel_rfl) (by kernel_rfl) (by kernel_rfl) (fun _ _ _ h => h) (Or.inl ⟨by rfl, ?_⟩) (by assumption) ?_
      rotate_left
      · (intro wS hSw; (try dsimp only at hSw); go_simp; try with_reducible rfl)
      simp only [Act.put, List.setIfInBounds_toArray, List.set_cons_zero, List.set_cons_succ]
      refine take_ (i := 4) (v := ?_) 33 rfl rfl (by kernel_rfl) (by kernel_rfl) (by kernel_rfl) (fun _ _ _ h => h) (Or.inl ⟨by rfl, ?_⟩) (by assumption) ?_
      rotate_left
      · (intro wS hSw; (try dsimp only at hSw); go_simp; try with_reducible rfl)
      simp only [Act.put, List.setIfInBounds_toArray, List.set_cons_zero, List.set_cons_succ]
      refine take_ (i := 5) (v := ?_) 34 rfl rfl (by kernel_rfl) (by kernel_rfl) (by kernel_rfl) (fun _ _ _ h => h) (Or.inl ⟨by rfl, ?_⟩) (by assumption) ?_
      rotate_left
      · (intro wS hSw; (try dsimp only at hSw); go_simp; try with_reducible rfl)
      simp only [Act.put, List.setIfInBounds_toArray, List.set_cons_zero, List.set_cons_succ]
      refine take_ (i := 6) (v := ?_) 35 rfl rfl (by kernel_rfl) (by kernel_rfl) (by kernel_rfl) (fun _ _ _ h => h) (Or.inl ⟨by rfl, ?_⟩) (by assumption) ?_
      rotate_left
      · (intro wS hSw; (try dsimp only at hSw); go_simp; try with_reducible rfl)
      simp only [Act.put, List.setIfInBounds_toArray, List.set_cons_zero, List.set_cons_succ]
      refine take_ (i := 7) (v := ?_) 36 rfl rfl (by kernel_rfl) (by kernel_rfl) (by kernel_rfl) (fun _ _ _ h => h) (Or.inl ⟨by rfl, ?_⟩) (by assumption) ?_
      rotate_left
      · (intro wS hSw; (try dsimp only at hSw); go_simp; try with_reducible rfl)
      simp only [Act.put, List.setIfInBounds_toArray, List.set_cons_zero, List.set_cons_succ]
      refine take_ (i := 8) (v := ?_) 37 rfl rfl (by kernel_rfl) (by kernel_rfl) (by kernel_rfl) (fun _ _ _ h => h) (Or.inl ⟨by rfl, ?_⟩) (by assumption) ?_
      rotate_left
      · (intro wS hSw; (try dsimp only at hSw); go_simp; try with_reducible rfl)
      simp only [Act.put, List.setIfInBounds_toArray, List.set_cons_zero, List.set_cons_succ]
      refine take_ (i := 9) (v := ?_) 38 rfl rfl (by kernel_rfl) (by kernel_rfl) (by kernel_rfl) (fun _ _ _ h => h) (Or.inl ⟨by rfl, ?_⟩) (by assumption) ?_
      rotate_left
      · (intro wS hSw; (try dsimp only at hSw); go_simp; try with_reducible rfl)
      simp only [Act.put, List.setIfInBounds_toArray, List.set_cons_zero, List.set_cons_succ]
      refine take_ (i := 10) (v := ?_) 39 rfl rfl (by kernel_rfl) (by kernel_rfl) (by kernel_rfl) (fun _ _ _ h => h) (Or.inl ⟨by rfl, ?_⟩) (by assumption) ?_
      rotate_left
      · (intro wS hSw; (try dsimp only at hSw); go_simp; try with_reducible rfl)
      simp only [Act.put, List.setIfInBounds_toArray, List.set_cons_zero, List.set_cons_succ]
      refine take_ (i := 11) (v := ?_) 40 rfl rfl (by kernel_rfl) (by kernel_rfl) (by kernel_rfl) (fun _ _ _ h => h) (Or.inl ⟨by rfl, ?_⟩) (by assumption) ?_
      rotate_left
      · (intro wS hSw; (try dsimp only at hSw); go_simp; try with_reducible rfl)
      simp only [Act.put, List.setIfInBounds_toArray, List.set_cons_zero, List.set_cons_succ]
      refine take_ (i := 12) (v := ?_) 41 rfl rfl (by kernel_rfl) (by kernel_rfl) (by kernel_rfl) (fun _ _ _ h => h) (Or.inl ⟨by rfl, ?_⟩) (by assumption) ?_
      rotate_left
      · (intro wS hSw; (try dsimp only at hSw); go_simp; try with_reducible rfl)
      simp only [Act.put, List.setIfInBounds_toArray, List.set_cons_zero, List.set_cons_succ]
      refine take_ (i := 13) (v := ?_) 42 rfl rfl (by kernel_rfl) (by kernel_rfl) (by kernel_rfl) (fun _ _ _ h => h) (Or.inl ⟨by rfl, ?_⟩) (by assumption) ?_
      rotate_left
      · (intro wS hSw; (try dsimp only at hSw); go_simp; try with_reducible rfl)
      simp only [Act.put, List.setIfInBounds_toArray, List.set_cons_zero, List.set_cons_succ]
      refine take_ (i := 14) (v := ?_) 43 rfl rfl (by kernel_rfl) (by kernel_rfl) (by kernel_rfl) (fun _ _ _ h => h) (Or.inl ⟨by rfl, ?_⟩) (by assumption) ?_
      rotate_left
      · (intro wS hSw; (try dsimp only at hSw); go_simp; try with_reducible rfl)
      simp only [Act.put, List.setIfInBounds_toArray, List.set_cons_zero, List.set_cons_succ]
      refine one_ (i := 15) _ (by kernel_rfl) rfl (fun K hK => ?_)
      go_simp
      refine C1.out.mono ?_
      rintro e w' ⟨rfl, k, rfl⟩
      go_wp2_with fail
      refine hK.out _ _ ⟨b0, b1, x0⟩ (fun hHeld => ?_)
      clear hK K
      refine one_ (i := 16) _ (by kernel_rfl) rfl (fun K hK => ?_)
      go_simp
      refine (C2.out _).mono ?_
      rintro e w3 ⟨v3, rfl, rfl, ho, hb⟩
      obtain ⟨g, hg⟩ : ∃ g, g = wa.heap.size := ⟨_, rfl⟩
      have BU : Hid (Buf w3 g D) := by rw [hg]; exact Buf.of_own ho (by rw [ED.out, sec_length])
      have B3 : Hid (Below wa.heap.size wa w3) := (Only.of_below (F := []) hb |> fun ho => (((Only.refl [] wa).drewN _).trans ho (fun _ hx => by cases hx)).below_nil)
      go_wp2_with fail
      refine hK.out _ _ ⟨(B3.out.cell (p := ⟨br, 0, none⟩) bl).trans b0, (B3.out.cell (p := ⟨br, 1, none⟩) bl).trans b1, (B3.out.cell (p := ⟨b, 0, none⟩) lt1).trans x0⟩ (fun hHeld => ?_)
      clear hK K
      refine take_ (i := 17) (v := ?_) 28 rfl rfl (by kernel_rfl) (by kernel_rfl) (by kernel_rfl) (fun _ _ _ h => h) (Or.inl ⟨by rfl, ?_⟩) (by assumption) ?_
      rotate_left
      · (intro wS hSw; (try dsimp only at hSw); go_simp; try with_reducible rfl)
      simp only [Act.put, List.setIfInBounds_toArray, List.set_cons_zero, List.set_cons_succ]
      refine take_ (i := 18) (v := ?_) 46 rfl rfl (by kernel_rfl) (by kernel_rfl) (by kernel_rfl) (fun _ _ _ h => h) (Or.inl ⟨by rfl, ?_⟩) (by assumption) ?_
      rotate_left
      · (intro wS hSw; (try dsimp only at hSw); go_simp; try with_reducible rfl)
      simp only [Act.put, List.setIfInBounds_toArray, List.set_cons_zero, List.set_cons_succ]
      refine take_ (i := 19) (v := ?_) 47 rfl rfl (by kernel_rfl) (by kernel_rfl) (by kernel_rfl) (fun _ _ _ h => h) (Or.inl ⟨by rfl, ?_⟩) (by assumption) ?_
      rotate_left
      · (intro wS hSw; (try dsimp only at hSw); go_simp; try with_reducible rfl)
      simp only [Act.put, List.setIfInBounds_toArray, List.set_cons_zero, List.set_cons_succ]
      refine take_ (i := 20) (v := ?_) 6 rfl rfl (by kernel_rfl) (by kernel_rfl) (by kernel_rfl) (fun _ _ _ h => h) (Or.inl ⟨by rfl, ?_⟩) (by assumption) ?_
      rotate_left
      · (intro wS hSw; (try dsimp only at hSw); go_simp; try with_reducible rfl)
      simp only [Act.put, List.setIfInBounds_toArray, List.set_cons_zero, List.set_cons_succ]
      refine take_ (i := 21) (v := ?_) 7 rfl rfl (by kernel_rfl) (by kernel_rfl) (by kernel_rfl) (fun _ _ _ h => h) (Or.inl ⟨by rfl, ?_⟩) (by assumption) ?_
      rotate_left
      · (intro wS hSw; (try dsimp only at hSw); go_simp; try with_reducible rfl)
      simp only [Act.put, List.setIfInBounds_toArray, List.set_cons_zero, List.set_cons_succ]
      refine wpAnyH_done (by kernel_rfl) ?_ _
      refine NoPanic.normal ?_
      rw [← hg]
      have GW : Hid (wa.heap.size ≤ g) := by rw [hg]; exact Nat.le_refl _
      have K3 := Lib.hid (KA.out.under B3.out)
      have b2 := K3.out.at_.held.cell 2
      have DL : Hid (D.length = 512) := by show _ = _; rw [ED.out, sec_length]
      have C4 := Lib.hid (turnBeginning_any w3 g 0 512 512 D mask BU.out (by omega) (by omega) (by rw [DL.out]; omega) hm)
      rw [patch_turn] at C4
      have ES : Hid (turn mask D = inSect s m mask P) := by show _ = _; rw [ED.out]; rfl
      rw [ES.out] at C4
      clear ho hb hg hHeld C1 C2 b0 b1 x0
      go_wp2_with fail
      refine C4.out.mono ?_
      rintro e w4 ⟨rfl, hu, ho⟩
      have KB := Lib.hid (KA.out.fresh (g := g) (((Only.of_below (F := [g]) B3.out)).trans ho (fun x hx => .inl hx)) GW.out)
      have BU4 := Lib.hid hu
      have SL : Hid ((inSect s m mask P).length = 512) := inSect_length s m mask P
      have TB : Hid (Bts w4 (some ⟨g, 0, none⟩) 512 (inSect s m mask P)) := by
        have h1 := hu.bts (off := 0) (n := 512) (by rw [SL.out]; omega)
        have h2 : ((inSect s m mask P).drop 0).take 512 = inSect s m mask P := by rw [List.drop_zero]; exact List.take_of_length_le (by rw [SL.out]; omega)
        rw [h2] at h1
        exact h1
      clear hu ho C4 K3 b2 BU
      have b3 := KB.out.at_.held.cell 3
      have RB := Lib.hid KB.out.at_.row
      have ZL : Hid (L.length + 512 ≤ 4000000000) := by
        have h1 := EZ.out
        have h2 := LL.out
        show _ ≤ _
        omega
      have PF : Hid (∀ w5, w4.grownBy w5 (Value.slice A z c).ownBlock → Held w5 br 175 #[.pointer (some ⟨b, 0, none⟩), .int .i64 (P : Int), .int .u64 (mask : Int), .slice A z c]) := fun w5 hg => by
        have ho : Only (Value.slice A z c).ownBlock.toList w4 w5 := (Only.refl _ _).grown hg (fun k hk => .inl (by simp [hk]))
        exact KB.out.at_.held.only ho (fun hm => KB.out.at_.far br (by simpa using hm) rfl)
      go_wp2_with (refine wpList_append_more rfl (o := ⟨some 63, _, _, _, _, _⟩) (.tmp 61) (.tmp 62) rfl (.slice A z c) L rfl RB.out g 0 512 512 (inSect s m mask P) rfl TB.out (by omega) ZL.out ?_; intro v5 w5 q1 q2 q3; have y1 := (PF.out w5 q2).cell 1; have y3 := (PF.out w5 q2).cell 3; have y4 := (PF.out w5 q2).frozen 1; have y5 := (PF.out w5 q2).frozen 3; have Q1 := Lib.hid q1; obtain ⟨A5, c5, rfl, _⟩ := q1.form; clear q1)
      have K5 := KB.out.rowed H.out HB.out HV.out Q1.out ((Only.refl _ w4).grown q2 (fun k hk => .inl (by simp [hk]))) q3
      have K6 := K5.placed HB.out (P + 1)
      have M6 := K6.at_.held.cell 1
      rw [List.length_append, show ((P + 1 : Nat) : Int) = (P : Int) + 1 by omega] at K6 M6
      have e9 : p + (i + 1) = P + 1 := by rw [EP.out]; omega
      refine ⟨⟨i + 1, .slice A5 (L.length + (inSect s m mask P).length) c5, by omega, ?_⟩, ?_⟩
      · rw [inFlat_succ, ← List.append_assoc, ← EL.out, ← EP.out, e9]
        exact K6
      · rw [M6, MB.out]
        simp [intOf]
        have := EP.out
        omega
    · obtain rfl : i = j := by omega
      have h9 : ¬ (z : Int) < (n : Int) := by have := LL.out; omega
      have h9' : decide ((z : Int) < (n : Int)) = false := decide_eq_false h9
      have hnz : n ≤ z := by have := LL.out; omega
      have TK : Hid (Bts wr A n (L.take n)) := by
        obtain ⟨t1, t2, t3⟩ := TB.out
        refine ⟨by rw [List.length_take, ← EZ.out]; omega, fun x hx => t2 x (List.mem_of_mem_take hx), fun h0 => ?_⟩
        obtain ⟨b', o', e, hb', hc'⟩ := t3 (by omega)
        refine ⟨b', o', e, hb', fun q hq => ?_⟩
        rw [hc' q (by omega)]
        simp only [List.getD_eq_getElem?_getD, List.getElem?_take, if_pos hq]
      have KR := Lib.hid KP.out.at_.row
      rcases KR.out.1.2 with ⟨e0, e1⟩ | ⟨g, off, cap, cur, mk, e0, _, _, e3, e4, _⟩
      · injection e0 with e01 e02 e03
        subst e01 e02 e03
        obtain rfl : n = 0 := by omega
        have ELn : Hid (L = []) := List.eq_nil_of_length_eq_zero e1
        have RK := Lib.hid (KP.out.rowed H.out HB.out HV.out (BRow.nil wr) (Only.refl _ wr) (fun y hy => by cases hy))
        clear TB KR e1
        go_wp2_with fail
        go_ret2
        rw [← EL.out, ← EP.out, ELn.out]
        exact ⟨none, ⟨0, rfl⟩, by simp, ⟨rfl, by simp, by simp⟩, _, RK.out⟩
      · injection e0 with e01 e02 e03
        subst e01 e03
        have hzc : z ≤ c := by omega
        clear e02
        have hnc : n ≤ c := by omega
        have KS : Hid (SRow wr 5 1 (.slice (some ⟨g, off, none⟩) z c) z (L.map u8v)) := by
          have h8 := KR.out.1
          rw [← EZ.out] at h8
          exact h8
        have GB : Hid (g ≠ br) := KP.out.at_.far g rfl
        have FA : Hid (∀ y, some (⟨g, off, none⟩ : Addr) = some y → y.block ≠ br ∧ (v.ownBlock = some y.block ∨ w.heap.size ≤ y.block)) := fun y hy => by
          injection hy with hy
          subst hy
          exact ⟨GB.out, KP.out.own g rfl⟩
        have LT : Hid ((L.drop n).length = z - n) := by show _ = _; rw [List.length_drop, EZ.out]
        have O1 : Hid (∀ u, Only [br] wr (wr.setCell ⟨br, 3, none⟩ u)) := fun u => (Only.refl _ wr).setCell (.inl (by simp)) _
        have TF : Hid (∀ u, Bts (wr.setCell ⟨br, 3, none⟩ u) (some ⟨g, off, none⟩) n (L.take n)) := fun u => (O1.out u).bts TK.out (fun _ x hx hm => by
          injection hx with hx
          subst hx
          exact GB.out (by simpa using hm))
        by_cases hfull : n = c
        · have hzn : z - n = 0 := by omega
          have DN : L.drop n = [] := List.eq_nil_of_length_eq_zero (by rw [LT.out]; exact hzn)
          have RK := Lib.hid (KP.out.rowed (v' := .slice (some ⟨g, off, none⟩) 0 0) (l' := []) H.out HB.out HV.out ⟨KS.out.tail', by simp⟩ (Only.refl _ wr) (fun y hy => .inl (by simpa [Value.ownBlock] using hy)))
          rw [← DN] at RK
          clear TB KR KS e3 e4 DN
          obtain rfl : n = z := by omega
          clear hzn LT
          subst hfull
          go_wp2_with fail
          go_ret2
          rw [← EL.out, ← EP.out]
          exact ⟨some ⟨g, off, none⟩, _, rfl, by omega, FA.out, TF.out _, _, RK.out⟩
        · have RK : Hid (ReadKept w b G s d F m br P mask v (L.drop n) (.slice (some ⟨g, off + n, none⟩) (z - n) (c - n)) (wr.setCell ⟨br, 3, none⟩ (.slice (some ⟨g, off + n, none⟩) (z - n) (c - n)))) := by
            have h8 := KS.out.tail hnz
            rw [Nat.mul_one, ← List.map_drop] at h8
            refine KP.out.rowed H.out HB.out HV.out ⟨?_, fun x hx => KR.out.2 x (List.mem_of_mem_drop hx)⟩ (Only.refl _ wr) (fun y hy => .inl (by simpa [Value.ownBlock] using hy))
            rw [LT.out]
            exact h8
          clear TB KR KS e3 e4
          go_wp2_with fail
          go_ret2
          rw [← EL.out, ← EP.out]
          exact ⟨some ⟨g, off, none⟩, _, rfl, by omega, FA.out, TF.out _, _, RK.out⟩
end Go.Proofs.YtkajneeihhobhaaGreat
