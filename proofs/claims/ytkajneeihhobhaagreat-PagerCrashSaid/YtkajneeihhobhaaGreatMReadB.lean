/-
  wal: the reader's take, told by the bytes that are still to come. · wal: the contract of the reader's record, where the record is whole. · wal: what reading records leaves, put together; a turn of a block of the call's own beside it. · wal: the contract of readBatch, where the batch is whole. · wal: the plain mathematics of a batch on its sectors: what is written there is what is read.
-/
import Derived.Test.YtkajneeihhobhaaGreatMReadA
namespace Go.Proofs.YtkajneeihhobhaaGreat
open Go.RowKit Go.Shelf Wal

namespace Wal
theorem inFlat_add (s : LS) (m : Dsk.DM) (mask p a : Nat) : ∀ c, inFlat s m mask p (a + c) = inFlat s m mask p a ++ inFlat s m mask (p + a) c
  | 0 => by simp [inFlat]
  | c + 1 => by rw [← Nat.add_assoc, inFlat_succ, inFlat_add s m mask p a c, inFlat_succ, List.append_assoc, Nat.add_assoc]
/-- All that a reader can still take: what was read and not taken, and the sectors from the place to the ring's end. -/
def stream (s : LS) (m : Dsk.DM) (mask p : Nat) (l : List Nat) : List Nat := l ++ inFlat s m mask p (s.ring - p)
theorem stream_length (s : LS) (m : Dsk.DM) (mask p : Nat) (l : List Nat) : (stream s m mask p l).length = l.length + 512 * (s.ring - p) := by
  unfold stream
  rw [List.length_append, inFlat_length]
theorem stream_split {s : LS} {m : Dsk.DM} {mask p j : Nat} {l : List Nat} (h : p + j ≤ s.ring) : stream s m mask p l = (l ++ inFlat s m mask p j) ++ inFlat s m mask (p + j) (s.ring - (p + j)) := by
  unfold stream
  rw [show s.ring - p = j + (s.ring - (p + j)) by omega, inFlat_add, List.append_assoc]
end Wal

set_option maxRecDepth 100000 in
theorem take_s (w : World) (b d : Nat) (s : LS) (G F : List Nat) (m : Dsk.DM) (br p mask : Nat) (v : Value) (l : List Nat) (n : Nat) (h : LD w b G s d F m) (hr : ReadsAt w br b p mask v l) (hbr : br ∉ G ++ F) (hv : ∀ y, v.ownBlock = some y → y ∉ G ++ F) (hs : s.Ok)
    (hm : mask < 18446744073709551616) (hl : l.length ≤ 1000000) (hn : n ≤ 600) (hd : m.dead = false) (hring : ∀ i, sector s i < m.dur.length) (hp : p ≤ s.ring) (hS : n ≤ (stream s m mask p l).length) :
    Calls Tryz.prog 105 #[.pointer (some ⟨br, 0, none⟩), .int .i64 (n : Int)] w fun e w' => ∃ A c v' p' l', e = .returned (.tuple #[.slice A n c, .int .i64 0]) ∧ Bts w' A n ((stream s m mask p l).take n) ∧
      p' ≤ s.ring ∧ l'.length ≤ 1000000 ∧ stream s m mask p' l' = (stream s m mask p l).drop n ∧ ReadKept w b G s d F m br p' mask v l' v' w' := by
  rw [stream_length] at hS
  obtain ⟨j, hj⟩ : ∃ j, j = (n - l.length + 511) / 512 := ⟨_, rfl⟩
  have h1 : n ≤ l.length + 512 * j := by omega
  have h2 : p + j ≤ s.ring := by omega
  have h3 : l.length + 512 * j - n ≤ 1000000 := by omega
  refine (take_any w b d s G F m br p mask v l n j h hr hbr hv hs hm (by omega) hn hd hring h1 (fun i hi => by omega) h2).mono ?_
  rintro e w' ⟨A, c, v', rfl, _, _, hb, hk⟩
  have e1 : (l ++ inFlat s m mask p j).length = l.length + 512 * j := by rw [List.length_append, inFlat_length]
  have e2 := stream_split (s := s) (m := m) (mask := mask) (l := l) h2
  refine ⟨A, c, v', p + j, _, rfl, ?_, h2, ?_, ?_, hk⟩
  · rw [e2, List.take_append_of_le_length (by omega)]
    exact hb
  · rw [List.length_drop, e1]
    exact h3
  · have e5 : ((l ++ inFlat s m mask p j) ++ inFlat s m mask (p + j) (s.ring - (p + j))).drop n = (l ++ inFlat s m mask p j).drop n ++ inFlat s m mask (p + j) (s.ring - (p + j)) := List.drop_append_of_le_length (by omega)
    rw [e2, e5]
    rfl
end Go.Proofs.YtkajneeihhobhaaGreat

namespace Go.Proofs.YtkajneeihhobhaaGreat
open Go.RowKit Go.Shelf Wal

/-- What reading a record leaves: as ReadKept; the log's own block may have turned too (its table was asked). -/
structure RecKept (w : World) (b : Nat) (G : List Nat) (s : LS) (d : Nat) (F : List Nat) (m : Dsk.DM) (br p mask : Nat) (v : Value) (l : List Nat) (v' : Value) (w' : World) : Prop where
  ld : LD w' b G s d F m
  at_ : ReadsAt w' br b p mask v' l
  only : Only (b :: br :: v.ownBlock.toList) w w'
  own : ∀ y, v'.ownBlock = some y → v.ownBlock = some y ∨ w.heap.size ≤ y

section
variable {w w1 w2 w' : World} {b d : Nat} {s : LS} {G F : List Nat} {m : Dsk.DM} {br p p1 mask : Nat} {v v1 v2 : Value} {l l1 l2 : List Nat}
theorem ReadKept.far (h : ReadKept w b G s d F m br p mask v l v1 w1) (h0 : LD w b G s d F m) (hv : ∀ y, v.ownBlock = some y → y ∉ G ++ F) : ∀ y, v1.ownBlock = some y → y ∉ G ++ F := fun y hy => by
  rcases h.own y hy with h1 | h1
  · exact hv y h1
  · exact h0.far_new h1
theorem ReadKept.then_ (h : ReadKept w b G s d F m br p1 mask v l1 v1 w1) (k : ReadKept w1 b G s d F m br p mask v1 l v2 w2) : ReadKept w b G s d F m br p mask v l v2 w2 :=
  ⟨k.ld, k.at_, h.only.trans k.only (fun x hx => by
    rcases List.mem_cons.1 hx with rfl | hx
    · exact .inl List.mem_cons_self
    · rcases h.own x (by simpa using hx) with h1 | h1
      · exact .inl (List.mem_cons_of_mem _ (by simp [h1]))
      · exact .inr h1), fun y hy => by
    rcases k.own y hy with h1 | h1
    · exact h.own y h1
    · exact .inr (Nat.le_trans h.only.size h1)⟩
theorem ReadKept.asked (h : ReadKept w b G s d F m br p mask v l v1 w1) (h0 : LD w b G s d F m) (hbr : br ∉ G ++ F) (hv : ∀ y, v.ownBlock = some y → y ∉ G ++ F) (k : LKept w1 b G s d F m w2) : RecKept w b G s d F m br p mask v l v1 w2 := by
  have hb := h0.mem
  have n1 : br ∉ [b] := fun e => hbr (by
    obtain rfl : br = b := by simpa using e
    exact List.mem_append.2 (.inl hb))
  refine ⟨k.1, ⟨h.at_.held.only k.2 n1, h.at_.row.only k.2 (fun y hy e => ?_), h.at_.far⟩, (h.only.mono (fun x hx => .inl (List.mem_cons_of_mem _ hx))).trans k.2 (fun x hx => .inl (by
    obtain rfl : x = b := by simpa using hx
    exact List.mem_cons_self)), h.own⟩
  obtain rfl : y = b := by simpa using e
  exact h.far h0 hv y hy (List.mem_append.2 (.inl hb))
end

set_option maxRecDepth 100000 in
set_option maxHeartbeats 1600000 in
theorem record_any (w : World) (b d : Nat) (s : LS) (G F : List Nat) (m : Dsk.DM) (br p mask : Nat) (v : Value) (l r T : List Nat) (h : LD w b G s d F m) (hr : ReadsAt w br b p mask v l) (hbr : br ∉ G ++ F) (hv : ∀ y, v.ownBlock = some y → y ∉ G ++ F) (hs : s.Ok)
    (hm : mask < 18446744073709551616) (hl : l.length ≤ 1000000) (hn : r.length ≤ 600) (hb : ∀ x ∈ r, x < 256) (hd : m.dead = false) (hring : ∀ i, sector s i < m.dur.length) (hp : p ≤ s.ring) (hS : stream s m mask p l = num 4 (frame r) ++ r ++ T) :
    Calls Tryz.prog 106 #[.pointer (some ⟨br, 0, none⟩)] w fun e w' => ∃ v' p' l', e = .returned (.tuple #[.string (strB r), .int .i64 0]) ∧ p' ≤ s.ring ∧ l'.length ≤ 1000000 ∧ stream s m mask p' l' = T ∧ RecKept w b G s d F m br p' mask v l' v' w' := by
  have e4 : (num 4 (frame r)).length = 4 := num_length _ _
  have hlt := frame_lt hn hb
  have C1 := Lib.hid (take_s w b d s G F m br p mask v l 4 h hr hbr hv hs hm hl (by omega) hd hring hp (by rw [hS, List.length_append, List.length_append, e4]; omega))
  have H := Lib.hid h
  have HB := Lib.hid hbr
  have HV := Lib.hid hv
  have HS := Lib.hid hs
  have HG := Lib.hid hring
  have HD := Lib.hid hd
  have HR := Lib.hid hb
  rw [hS] at C1
  have t1 : (num 4 (frame r) ++ r ++ T).take 4 = num 4 (frame r) := by rw [List.append_assoc, List.take_append_of_le_length (by rw [e4]; exact Nat.le_refl _), List.take_of_length_le (by rw [e4]; exact Nat.le_refl _)]
  have t2 : (num 4 (frame r) ++ r ++ T).drop 4 = r ++ T := by rw [List.append_assoc, List.drop_append_of_le_length (by rw [e4]; exact Nat.le_refl _), List.drop_of_length_le (by rw [e4]; exact Nat.le_refl _), List.nil_append]
  rw [t1, t2] at C1
  have UN : Hid (unnum (num 4 (frame r)) = frame r) := unnum_num' (by omega)
  have FM : Hid (frame r % 1024 = r.length) := frame_mod hn
  clear h hr hbr hv hs hring hd hb hS t1 t2 e4
  obtain ⟨X, hX⟩ : ∃ X, X = frame r := ⟨_, rfl⟩
  have EX := Lib.hid hX
  rw [← hX] at UN FM hlt C1
  clear hX
  go_enter Tryz.func106, Tryz.ntmps106
  go_wp2_with fail
  refine C1.out.mono ?_
  rintro e w1 ⟨A1, c1, v1, p1, l1, rfl, tb1, hp1, hl1, hs1, k1⟩
  have K1 := Lib.hid k1
  have S1 := Lib.hid hs1
  have N1 := Lib.hid (readNumber_any w1 A1 4 c1 _ tb1 (by omega))
  rw [UN.out] at N1
  clear tb1 hs1 k1 C1
  go_wp2_with fail
  refine N1.out.mono ?_
  rintro e w' ⟨rfl, rfl⟩
  clear N1
  obtain ⟨Z, hZ⟩ : ∃ Z, Z = r.length := ⟨_, rfl⟩
  have EZ := Lib.hid hZ
  rw [← hZ] at FM hn
  clear hZ
  have ha : bits .and .u32 (X : Int) 1023 = (Z : Int) := by
    have h1 := u32_and_nat X 1023 hlt (by decide)
    rw [nat_mask10, FM.out] at h1
    exact h1
  have hmod : (X : Int) % 1024 = (Z : Int) := by have := FM.out; omega
  have hz9 : (Z : Int) ≤ 600 := by omega
  have RT : Hid ((r ++ T).take Z = r ∧ (r ++ T).drop Z = T) := by
    rw [EZ.out]
    exact ⟨by simp, by simp⟩
  have C2 := Lib.hid (take_s w1 b d s G F m br p1 mask v1 l1 Z K1.out.ld K1.out.at_ HB.out (K1.out.far H.out HV.out) HS.out hm hl1 hn HD.out HG.out hp1 (by rw [S1.out, List.length_append, ← EZ.out]; omega))
  rw [S1.out, RT.out.1, RT.out.2] at C2
  go_wp2_with fail
  refine C2.out.mono ?_
  rintro e w2 ⟨A2, c2, v2, p2, l2, rfl, tb2, hp2, hl2, hs2, k2⟩
  have K2 := Lib.hid (K1.out.then_ k2)
  have S2 := Lib.hid hs2
  have hcv := tb2.toStr byteT Tryz.underlying9 c2
  have NS : Hid (nums (strB r) = r) := nums_strB HR.out
  have SZ : Hid ((strB r).size = Z) := by show _ = _; rw [← nums_length, NS.out, ← EZ.out]
  have b0 := K2.out.at_.held.cell 0
  have C3 := Lib.hid (frame_any w2 b d s G F m (strB r) K2.out.ld (by rw [SZ.out]; exact hn))
  rw [NS.out, ← EX.out] at C3
  clear tb2 hs2 k2 C2 ha hmod
  go_wp2_with fail
  refine C3.out.mono ?_
  rintro e w3 ⟨rfl, hk⟩
  have KK := Lib.hid (K2.out.asked H.out HB.out HV.out hk)
  clear hk C3 b0 hcv
  go_wp2_with fail
  go_ret2
  exact ⟨v2, p2, l2, rfl, hp2, hl2, S2.out, KK.out⟩
end Go.Proofs.YtkajneeihhobhaaGreat

namespace Go.Proofs.YtkajneeihhobhaaGreat
open Go.RowKit Go.Shelf Wal

/-- A string appended to a row of strings of the call's own. -/
theorem wpList_append_str {ops : Array Oper} {rest : List Oper} {o : Oper} {a : Act} {w : World} {Q : Exit → Act → World → Prop} (hgd : o.guard = none) (s x : Operand) (base : Nat)
    (ho : o.op = .call { callee := .builtin .append, args := #[s, x], argTypes := #[71, 71] }) (v : Value) (k : Nat) (xs : List Value) (hs : a.eval s = v) (hr : w.ownsRow base 9 1 v k xs) (q c : Nat) (u : ByteArray) (hx : a.eval x = .slice (some ⟨q, 0, none⟩) 1 c)
    (hc : w.cell? ⟨q, 0, none⟩ = some (.string u)) (hk : k ≤ 1000000) (hb : base ≤ w.heap.size)
    (h : ∀ v' w', w'.ownsRow base 9 1 v' (k + 1) (xs ++ [.string u]) → w.grownBy w' v.ownBlock → (v'.ownBlock = v.ownBlock ∨ v'.ownBlock = some w.heap.size) → wpList Tryz.prog ops Q rest (a.put o.dst v') w') : wpList Tryz.prog ops Q (o :: rest) a w := by
  obtain ⟨i, hi, hz, hsize, hby⟩ := info_parts infoS
  obtain ⟨v', w', h1, h2, h3, _, h4⟩ := run_append_own_at (P := Tryz.prog) w base 71 o.type 9 i (.string ⟨#[]⟩) 1 16 Tryz.underlying71 hi hz hsize hby rfl (by omega) v k xs hr ⟨q, 0, none⟩ 1 c [.string u] rfl
    (fun j y hy => by
      obtain rfl : j = 0 := by
        rcases j with _ | j
        · rfl
        · simp at hy
      have e : Value.string u = y := by simpa using hy
      rw [← e]
      exact hc) (fun y hy => by
        have : y = .string u := by simpa using hy
        rw [this]; rfl) (by simp only [maxLen]; omega) (by omega) hb
  refine wpList_plain hgd fun _ hK => ?_
  unfold Oper.wp execOp
  simp only [ho, resolve, invoke, builtin, Sem.run_bind, Sem.run_pure, Result.andThen_ok, List.map_toArray, List.map_cons, List.map_nil, hs, hx, h1]
  exact hK _ _ (h v' w' h2 h3 h4)

section
variable {w w1 w2 w' : World} {b d : Nat} {s : LS} {G F : List Nat} {m : Dsk.DM} {br p p1 mask mask1 : Nat} {v v1 v2 : Value} {l l1 : List Nat}
theorem RecKept.then_ (h : RecKept w b G s d F m br p1 mask1 v l1 v1 w1) (k : RecKept w1 b G s d F m br p mask v1 l v2 w2) : RecKept w b G s d F m br p mask v l v2 w2 :=
  ⟨k.ld, k.at_, h.only.trans k.only (fun x hx => by
    rcases List.mem_cons.1 hx with rfl | hx
    · exact .inl List.mem_cons_self
    · rcases List.mem_cons.1 hx with rfl | hx
      · exact .inl (List.mem_cons_of_mem _ List.mem_cons_self)
      · rcases h.own x (by simpa using hx) with h1 | h1
        · exact .inl (List.mem_cons_of_mem _ (List.mem_cons_of_mem _ (by simp [h1])))
        · exact .inr h1), fun y hy => by
    rcases k.own y hy with h1 | h1
    · exact h.own y h1
    · exact .inr (Nat.le_trans h.only.size h1)⟩
theorem RecKept.far (h : RecKept w b G s d F m br p mask v l v1 w1) (h0 : LD w b G s d F m) (hv : ∀ y, v.ownBlock = some y → y ∉ G ++ F) : ∀ y, v1.ownBlock = some y → y ∉ G ++ F := fun y hy => by
  rcases h.own y hy with h1 | h1
  · exact hv y h1
  · exact h0.far_new h1
/-- Blocks turned that are the call's own, and neither the reader nor its row. -/
theorem RecKept.beside {H : List Nat} (h : RecKept w b G s d F m br p mask v l v1 w1) (h0 : LD w b G s d F m) (k : Only H w1 w') (hH : ∀ x ∈ H, w.heap.size ≤ x ∧ x ≠ br ∧ v1.ownBlock ≠ some x) : RecKept w b G s d F m br p mask v l v1 w' := by
  have n1 : ∀ x ∈ G ++ F, x ∉ H := fun x hx hm => h0.far_new (hH x hm).1 hx
  exact ⟨h.ld.only k (fun x hx => n1 x (List.mem_append.2 (.inl hx))) (fun x hx => n1 x (List.mem_append.2 (.inr hx))), ⟨h.at_.held.only k (fun hm => (hH br hm).2.1 rfl), h.at_.row.only k (fun y hy hm => (hH y hm).2.2 hy), h.at_.far⟩,
    h.only.trans k (fun x hx => .inr (hH x hx).1), h.own⟩
/-- A reader of the call's own: but for new blocks only the log's own block may have turned. -/
theorem RecKept.kept (h : RecKept w b G s d F m br p mask v l v1 w1) (hbr : w.heap.size ≤ br) (hv : ∀ y, v.ownBlock = some y → w.heap.size ≤ y) : LKept w b G s d F m w1 :=
  ⟨h.ld, h.only.mono (fun x hx => by
    rcases List.mem_cons.1 hx with rfl | hx
    · exact .inl List.mem_cons_self
    · rcases List.mem_cons.1 hx with rfl | hx
      · exact .inr hbr
      · exact .inr (hv x (by simpa using hx)))⟩
end
end Go.Proofs.YtkajneeihhobhaaGreat

namespace Go.Proofs.YtkajneeihhobhaaGreat
open Go.RowKit Go.Shelf Wal

/-- The batch of this number lies whole at this place of the ring. -/
def BatchAt (s : LS) (m : Dsk.DM) (place number : Nat) (B : List (List Nat)) : Prop :=
  ∃ M R0 T, M < 65536 ∧ (∀ x ∈ R0, x < 256) ∧ sec (m.seen.getD (sector s place) []) = top B.length M number ++ R0 ∧ R0 ++ inFlat s m M (place + 1) (s.ring - (place + 1)) = body B ++ T

/-- The mask is another. -/
theorem ReadKept.masked {w wr : World} {b d : Nat} {s : LS} {G F : List Nat} {m : Dsk.DM} {br p mask : Nat} {v vi : Value} {l : List Nat} (h : ReadKept w b G s d F m br p mask v l vi wr) (hbr : br ∉ G ++ F) (q : Nat) : ReadKept w b G s d F m br p q v l vi (wr.setCell ⟨br, 2, none⟩ (.int .u64 (q : Int))) := by
  have o2 : Only [br] wr (wr.setCell ⟨br, 2, none⟩ (.int .u64 (q : Int))) := (Only.refl _ wr).setCell (.inl (by simp)) _
  have nr : ∀ x ∈ G ++ F, x ∉ [br] := fun x hx hm => hbr (by
    obtain rfl : x = br := by simpa using hm
    exact hx)
  exact ⟨h.ld.only o2 (fun x hx => nr x (List.mem_append.2 (.inl hx))) (fun x hx => nr x (List.mem_append.2 (.inr hx))), ⟨h.at_.held.set_ 2 _, h.at_.row.only o2 (fun y hy hm => h.at_.far y hy (by simpa using hm)), h.at_.far⟩,
    h.only.trans o2 (fun x hx => .inl (by
      obtain rfl : x = br := by simpa using hx
      exact List.mem_cons_self)), h.own⟩
/-- A row of bytes and a row of strings lie apart. -/
theorem rows_apart {w : World} {v v2 : Value} {l : List Nat} {base n : Nat} {xs : List Value} (h : BRow w v l) (h2 : w.ownsRow base 9 1 v2 n xs) : ∀ y, v2.ownBlock = some y → v.ownBlock ≠ some y := by
  intro y hy hv
  obtain ⟨cur, mk, hh⟩ := h.1.ty y hv
  rcases h2.2 with ⟨rfl, _⟩ | ⟨g, cap, cur2, rfl, _, hg, _⟩
  · cases hy
  · have e : g = y := by simpa [Value.ownBlock] using hy
    subst e
    rw [hh] at hg
    injection hg with hg
    injection hg with _ hg _
    exact absurd hg (by decide)
/-- A part of some bytes that lie in a block. -/
theorem Bts.part {w : World} {g off n : Nat} {L : List Nat} (h : Bts w (some ⟨g, off, none⟩) n L) (i k : Nat) (hk : i + k ≤ n) : Bts w (some ⟨g, off + i, none⟩) k ((L.drop i).take k) := by
  obtain ⟨h1, h2, h3⟩ := h
  refine ⟨by rw [List.length_take, List.length_drop]; omega, fun x hx => h2 x (List.mem_of_mem_drop (List.mem_of_mem_take hx)), fun h0 => ?_⟩
  obtain ⟨g', off', e, hb, hc⟩ := h3 (by omega)
  injection e with e
  injection e with e1 e2 _
  subst e1 e2
  refine ⟨g, off + i, rfl, hb, fun j hj => ?_⟩
  rw [Nat.add_assoc, hc (i + j) (by omega)]
  simp only [List.getD_eq_getElem?_getD, List.getElem?_take, if_pos hj, List.getElem?_drop]
theorem top_parts (c M n : Nat) (hc : c < 65536) (hM : M < 65536) : unnum (((top c M n).drop 0).take 2) = c ∧ unnum (((top c M n).drop 2).take 2) = M := by
  have e1 : (num 2 c).length = 2 := num_length _ _
  have e2 : (num 2 M).length = 2 := num_length _ _
  have t1 : ((top c M n).drop 0).take 2 = num 2 c := by
    unfold top top12
    rw [List.drop_zero, List.append_assoc, List.append_assoc, List.take_append_of_le_length (by rw [e1]; exact Nat.le_refl _), List.take_of_length_le (by rw [e1]; exact Nat.le_refl _)]
  have t2 : ((top c M n).drop 2).take 2 = num 2 M := by
    unfold top top12
    rw [List.append_assoc, List.append_assoc, List.drop_append_of_le_length (by rw [e1]; exact Nat.le_refl _), List.drop_of_length_le (by rw [e1]; exact Nat.le_refl _), List.nil_append, List.take_append_of_le_length (by rw [e2]; exact Nat.le_refl _), List.take_of_length_le (by rw [e2]; exact Nat.le_refl _)]
  rw [t1, t2]
  exact ⟨unnum_num' (by omega), unnum_num' (by omega)⟩

set_option maxRecDepth 100000 in
set_option maxHeartbeats 1600000 in
theorem readBatch_any (w : World) (b d : Nat) (s : LS) (G F : List Nat) (m : Dsk.DM) (number : Nat) (B : List (List Nat)) (h : LD w b G s d F m) (hs : s.Ok) (hd : m.dead = false) (hring : ∀ i, sector s i < m.dur.length) (hp : s.needs.sum < s.ring) (hg : Wal.good B = true)
    (hb : ∀ r ∈ B, ∀ x ∈ r, x < 256) (hn : number ≤ 4611686018427387904) (hB : BatchAt s m s.needs.sum number B) :
    Calls Tryz.prog 91 #[.pointer (some ⟨b, 0, none⟩), .int .i64 (number : Int)] w fun e w' => ∃ v, e = .returned (.tuple #[v, .int .i64 0]) ∧ w'.ownsRow w.heap.size 9 1 v B.length (B.map strV) ∧ LKept w b G s d F m w' := by
  obtain ⟨M, R0, T, hM, hR0, hsec, hrest⟩ := hB
  obtain ⟨vn, hlog, _⟩ := h.log
  have C1 := Lib.hid (taken_any w b d vn s hlog (by have := hs.needs; have := hs.ring; omega) (by have := hs.count; omega))
  obtain ⟨p, hpe⟩ : ∃ p, p = s.needs.sum := ⟨_, rfl⟩
  rw [← hpe] at C1 hp hsec hrest
  have H := Lib.hid h
  have HS := Lib.hid hs
  have HG := Lib.hid hring
  have HD := Lib.hid hd
  have HC := Lib.hid hsec
  have HT := Lib.hid hrest
  have GD := Lib.hid hg
  have HB := Lib.hid hb
  have hp9 : p ≤ 4096 := by have := hs.ring; omega
  clear h hs hring hd hsec hrest hg hb hlog hpe
  go_enter Tryz.func91, Tryz.ntmps91
  go_wp2_with fail
  refine C1.out.mono ?_
  rintro e w' ⟨rfl, rfl⟩
  clear C1
  go_wp2_with fail
  obtain ⟨q, hq⟩ : ∃ q, q = w.heap.size := ⟨_, rfl⟩
  obtain ⟨w1, hw1⟩ : ∃ w1, w1 = w.alloc (.cells #[.pointer (some ⟨b, 0, none⟩), .int .i64 (p : Int), .int .u64 0, .slice none 0 0] 175) := ⟨_, rfl⟩
  have B1 : Hid (Below w.heap.size w w1) := by rw [hw1]; exact (Below.refl _ _).alloc (Nat.le_refl _) _
  have R1 : ReadsAt w1 q b p 0 (.slice none 0 0) [] := ⟨by rw [hw1]; exact Held.new _ _ _ hq, BRow.nil _, fun g hg => by cases hg⟩
  have QF : Hid (q ∉ G ++ F) := H.out.far_new (by omega)
  have e1 : inFlat s m 0 p 1 = top B.length M number ++ R0 := by
    have e2 : inFlat s m 0 p 1 = inSect s m 0 p := by simp [inFlat]
    rw [e2]
    unfold inSect
    rw [turn_zero (by rw [sec_length]; omega) (by
      rw [HC.out]
      intro x hx
      rcases List.mem_append.1 hx with hx | hx
      · exact top_bytes _ _ _ x hx
      · exact hR0 x hx), HC.out]
  have tl : (top B.length M number).length = 16 := top_length _ _ _
  have C2 := Lib.hid (take_any w1 b d s G F m q p 0 (.slice none 0 0) [] 16 1 (H.out.under B1.out) R1 QF.out (fun y hy => by cases hy) HS.out (by omega) (by simp) (by omega) HD.out HG.out (by simp) (fun i hi => by
    obtain rfl : i = 0 := by omega
    simp) (by omega))
  rw [List.nil_append, e1, List.take_append_of_le_length (by rw [tl]; exact Nat.le_refl _), List.take_of_length_le (by rw [tl]; exact Nat.le_refl _), List.drop_append_of_le_length (by rw [tl]; exact Nat.le_refl _), List.drop_of_length_le (by rw [tl]; exact Nat.le_refl _), List.nil_append] at C2
  rw [← hw1, ← hq]
  have EQ := Lib.hid hq
  clear hw1 e1 R1 hq
  refine C2.out.mono ?_
  rintro e w2 ⟨A2, c2, v2, rfl, hc2, fa2, tb2, k2⟩
  obtain ⟨g, off, rfl, _⟩ := tb2.2.2 (by omega)
  have GQ : Hid (g ≠ q ∧ g ≠ b) := ⟨(fa2 _ rfl).1, by
    rcases (fa2 _ rfl).2 with h1 | h1
    · cases h1
    · have h2 := H.out.blt
      have h3 := B1.out.size
      dsimp only at h1
      omega⟩
  clear fa2
  have K2 := Lib.hid k2
  have TB := Lib.hid tb2
  have hc16 : (16 : Int) ≤ (c2 : Int) := by omega
  clear tb2 k2 C2
  have hk : B.length ≤ 1024 := by
    have h1 := GD.out
    unfold Wal.good at h1
    simp only [Bool.and_eq_true, decide_eq_true_eq] at h1
    exact h1.2
  have TP := Lib.hid (top_parts B.length M number (by omega) hM)
  have N1 := Lib.hid (readNumber_any w2 (some ⟨g, off, none⟩) 2 c2 _ (TB.out.part 0 2 (by omega)) (by omega))
  have N2 := Lib.hid (readNumber_any w2 (some ⟨g, off + 2, none⟩) 2 (c2 - 2) _ (TB.out.part 2 2 (by omega)) (by omega))
  rw [TP.out.1] at N1
  rw [TP.out.2] at N2
  have b2 := K2.out.at_.held.cell 2
  have g2 := K2.out.at_.held.frozen 2
  go_wp2_with fail
  refine N1.out.mono ?_
  rintro e w' ⟨rfl, rfl⟩
  go_wp2_with fail
  refine N2.out.mono ?_
  rintro e w' ⟨rfl, rfl⟩
  go_upto_region 7 with fail
  have K3 := Lib.hid (K2.out.masked QF.out M)
  have TB3 : Hid (Bts (w2.setCell ⟨q, 2, none⟩ (.int .u64 (M : Int))) (some ⟨g, off, none⟩) 16 (top B.length M number)) := ((Only.refl [q] w2).setCell (p := ⟨q, 2, none⟩) (.inl (by simp)) (.int .u64 (M : Int))).bts TB.out (fun _ x hx hm => by
    injection hx with hx
    subst hx
    exact GQ.out.1 (by simpa using hm))
  generalize w2.setCell ⟨q, 2, none⟩ (.int .u64 (M : Int)) = w3 at *
  clear TB K2 N1 N2 b2 g2
  have b2 := K3.out.at_.held.cell 2
  have C3 := Lib.hid (top_any w3 b d s G F m B.length M number K3.out.ld hk (by omega) hn)
  go_wp2_with fail
  refine C3.out.mono ?_
  rintro e w4 ⟨v4, rfl, hn4, hk4⟩
  obtain ⟨A4, c4, rfl, tb4⟩ := hn4.1.form
  have TB4 : Hid (Bts w4 (some ⟨g, off, none⟩) 16 (top B.length M number)) := hk4.2.bts TB3.out (fun _ x hx hm => by
    injection hx with hx
    subst hx
    exact GQ.out.2 (by simpa using hm))
  have EQA := Lib.hid (equal_any w4 (some ⟨g, off, none⟩) A4 16 c2 _ c4 _ _ TB4.out tb4)
  have L4 := Lib.hid hk4
  have K4 := Lib.hid (K3.out.asked (H.out.under B1.out) QF.out (fun y hy => by cases hy) hk4)
  have e9 : decide (top B.length M number = top B.length M number) = true := by simp
  rw [e9] at EQA
  clear hn4 hk4 tb4 C3 b2 e9
  rw [tl] at EQA ⊢
  go_wp2_with fail
  refine EQA.out.mono ?_
  rintro e w' ⟨rfl, rfl⟩
  clear EQA
  have hRl : R0.length ≤ 1000000 := by
    have h1 := congrArg List.length HC.out
    rw [sec_length, List.length_append, top_length] at h1
    omega
  go_wp2_with fail
  go_loopw [10, 43] (fun bv iv wr => ∃ k pk lk vk, k ≤ B.length ∧ iv = .int .i64 (k : Nat) ∧ RecKept w1 b G s d F m q pk M (.slice none 0 0) lk vk wr ∧ pk ≤ s.ring ∧ lk.length ≤ 1000000 ∧ stream s m M pk lk = body (B.drop k) ++ T ∧ wr.ownsRow w1.heap.size 9 1 bv k ((B.take k).map strV)) (fun _ iv _ => B.length - (intOf iv).toNat)
  case atStart => exact ⟨0, p + 1, R0, v2, Nat.zero_le _, rfl, K4.out, by omega, hRl, HT.out, World.ownsRow_nil _ _ _ _⟩
  case round =>
    obtain ⟨k, pk, lk, vk, hkB, rfl, hkp, hpk, hlk, hst, hrow⟩ := hrel
    have KP := Lib.hid hkp
    have ST := Lib.hid hst
    have RW := Lib.hid hrow
    clear hkp hst hrow
    by_cases hlt : k < B.length
    · obtain ⟨r, hr⟩ : ∃ r, r = B[k] := ⟨_, rfl⟩
      have hmem : r ∈ B := by rw [hr]; exact List.getElem_mem hlt
      have hr6 : r.length ≤ 600 := by
        have h1 := GD.out
        unfold Wal.good at h1
        simp only [Bool.and_eq_true, decide_eq_true_eq, List.all_eq_true] at h1
        exact h1.1.1 r hmem
      have ed : B.drop k = r :: B.drop (k + 1) := by rw [hr]; exact List.drop_eq_getElem_cons hlt
      have et : B.take (k + 1) = B.take k ++ [r] := by rw [hr]; exact (List.take_append_getElem hlt).symm
      have EB : Hid (body (B.drop k) ++ T = num 4 (frame r) ++ r ++ (body (B.drop (k + 1)) ++ T)) := by
        show _ = _
        rw [ed]
        simp [body]
      have ET := Lib.hid et
      have CR := Lib.hid (record_any wr b d s G F m q pk M vk lk r (body (B.drop (k + 1)) ++ T) KP.out.ld KP.out.at_ QF.out (KP.out.far (H.out.under B1.out) (fun y hy => by cases hy)) HS.out (by omega) hlk hr6 (HB.out r hmem) HD.out HG.out hpk (by rw [ST.out, EB.out]))
      clear hr ed et EB hmem
      go_wp2_with fail
      refine CR.out.mono ?_
      rintro e w5 ⟨v5, p5, l5, rfl, hp5, hl5, hs5, k5⟩
      have K5 := Lib.hid (KP.out.then_ k5)
      have LTW : Hid (w1.heap.size ≤ w5.heap.size) := K5.out.only.size
      have hbn : b ≠ q := fun e => QF.out (by rw [← e]; exact List.mem_append.2 (.inl H.out.mem))
      have BL1 : Hid (b < w1.heap.size) := Nat.lt_of_lt_of_le H.out.blt B1.out.size
      have R5 : Hid (w5.ownsRow w1.heap.size 9 1 u10 k ((B.take k).map strV)) := k5.only.row RW.out (fun y hy hm => by
        rcases List.mem_cons.1 hm with rfl | hm
        · have h1 := (RW.out.lt _ hy).1
          have h2 := BL1.out
          omega
        · rcases List.mem_cons.1 hm with rfl | hm
          · exact Held.ne_row KP.out.at_.held RW.out (by decide) _ hy rfl
          · exact rows_apart KP.out.at_.row RW.out y hy (by simpa using hm))
      have S5 := Lib.hid hs5
      have OA : Only [] w5 (w5.alloc (.cells #[.string (strB r)] 9)) := (Only.refl [] w5).alloc _
      have KA := Lib.hid (K5.out.beside (H.out.under B1.out) OA (fun x hx => by cases hx))
      have RA : Hid ((w5.alloc (.cells #[.string (strB r)] 9)).ownsRow w1.heap.size 9 1 u10 k ((B.take k).map strV)) := OA.row R5.out (fun _ _ hx => by cases hx)
      have QA : Hid ((w5.alloc (.cells #[.string (strB r)] 9)).cell? ⟨w5.heap.size, 0, none⟩ = some (.string (strB r))) := (Held.new w5 9 #[.string (strB r)] rfl).cell 0
      have LA : Hid (w1.heap.size ≤ (w5.alloc (.cells #[.string (strB r)] 9)).heap.size) := by show _ ≤ _; rw [World.size_alloc]; have := LTW.out; omega
      clear CR k5 hs5 OA
      go_wp2_with (refine wpList_append_str rfl (o := ⟨some 55, _, _, _, _, _⟩) (.tmp 52) (.tmp 54) w1.heap.size rfl u10 k _ rfl RA.out w5.heap.size 1 (strB r) rfl QA.out (by omega) LA.out ?_; intro v6 w6 r1 r2 r3)
      have K6 := KA.out.beside (H.out.under B1.out) ((Only.refl u10.ownBlock.toList _).grown r2 (fun k hk => .inl (by simp [hk]))) (fun x hx => by
        have hx' : u10.ownBlock = some x := by simpa using hx
        exact ⟨(RA.out.lt x hx').1, Held.ne_row KA.out.at_.held RA.out (by decide) x hx', rows_apart KA.out.at_.row RA.out x hx'⟩)
      go_roundw
      case rel => exact ⟨k + 1, p5, l5, v5, by omega, by go_num, K6, hp5, hl5, S5.out, by rw [ET.out, List.map_append]; exact r1⟩
      case measure => simp [intOf]; omega
    · obtain rfl : k = B.length := by omega
      have h1B : 1 ≤ B.length := by
        have h1 := GD.out
        unfold Wal.good at h1
        simp only [Bool.and_eq_true, decide_eq_true_eq] at h1
        exact h1.1.2
      rw [List.take_length] at RW
      have TX : txts (B.map strB) = B := by
        unfold txts
        rw [List.map_map]
        conv => rhs; rw [← List.map_id B]
        exact List.map_congr_left fun r hr => nums_strB (HB.out r hr)
      rcases RW.out.2 with ⟨rfl, h0⟩ | ⟨g9, cap, cur, rfl, hg9, hh, hnc, hcm, hcs, ht⟩
      · omega
      · have SS : Strs wr (some ⟨g9, 0, none⟩) B.length (B.map strB) := ⟨List.length_map _, fun s hs => by
          obtain ⟨r, hr, rfl⟩ := List.mem_map.1 hs
          have h1 := GD.out
          unfold Wal.good at h1
          simp only [Bool.and_eq_true, decide_eq_true_eq, List.all_eq_true] at h1
          have h2 := h1.1.1 r hr
          rw [← nums_length, nums_strB (HB.out r hr)]
          omega, fun _ => ⟨g9, 0, rfl, (Array.getElem?_eq_some_iff.1 hh).1, fun i s hi => by
          have hil : i < B.length := by
            have := (List.getElem?_eq_some_iff.1 hi).1
            rwa [List.length_map] at this
          rw [Nat.zero_add, RW.out.cellAt i (by omega), List.getElem?_map]
          rw [List.getElem?_map] at hi
          obtain ⟨r, hr, rfl⟩ := Option.map_eq_some_iff.1 hi
          rw [hr]
          rfl⟩⟩
        have GA := Lib.hid (good_any wr (some ⟨g9, 0, none⟩) B.length cap (B.map strB) (by omega) SS)
        rw [TX, GD.out] at GA
        have RF : Hid (wr.ownsRow w.heap.size 9 1 (.slice (some ⟨g9, 0, none⟩) B.length cap) B.length (B.map strV)) := ⟨RW.out.1, .inr ⟨g9, cap, cur, rfl, Nat.le_trans B1.out.size hg9, hh, hnc, hcm, hcs, ht⟩⟩
        have LF : Hid (LKept w b G s d F m wr) := ⟨KP.out.ld, (Only.of_below (F := [b]) B1.out).trans KP.out.only (fun x hx => by
          simp only [Value.ownBlock, Option.toList_none, List.mem_cons, List.not_mem_nil, or_false] at hx
          rcases hx with rfl | rfl
          · exact .inl (by simp)
          · exact .inr (by rw [EQ.out]; exact Nat.le_refl _))⟩
        clear SS TX hh ht hcs RW
        go_wp2_with fail
        refine GA.out.mono ?_
        rintro e w' ⟨rfl, rfl⟩
        go_wp2_with fail
        go_ret2
        exact ⟨_, rfl, RF.out, LF.out⟩
end Go.Proofs.YtkajneeihhobhaaGreat

namespace Go.Proofs.YtkajneeihhobhaaGreat
open Wal

namespace Wal
theorem patch_get {L x : List Nat} {o : Nat} (h : o + x.length ≤ L.length) (j : Nat) : (patch L o x)[j]? = if o ≤ j ∧ j < o + x.length then x[j - o]? else L[j]? := by
  unfold patch
  have h1 : (L.take o).length = o := by rw [List.length_take]; omega
  rw [List.append_assoc]
  by_cases hj : j < o
  · rw [List.getElem?_append_left (by omega), List.getElem?_take, if_pos hj, if_neg (by omega)]
  · rw [List.getElem?_append_right (by omega), h1]
    by_cases hk : j < o + x.length
    · rw [List.getElem?_append_left (by omega), if_pos ⟨by omega, hk⟩]
    · rw [List.getElem?_append_right (by omega), List.getElem?_drop, if_neg (by omega)]
      congr 1; omega
theorem chunk_get (P : List Nat) (i j : Nat) : (chunk P i)[j]? = if j < 512 then P[512 * i + j]? else none := by
  unfold chunk
  rw [List.getElem?_take, List.getElem?_drop]
theorem chunk_length {P : List Nat} {i : Nat} (h : 512 * i + 512 ≤ P.length) : (chunk P i).length = 512 := by
  unfold chunk; rw [List.length_take, List.length_drop]; omega
theorem chunk_bytes {P : List Nat} (h : ∀ x ∈ P, x < 256) (i : Nat) : ∀ x ∈ chunk P i, x < 256 := fun x hx => h x (List.mem_of_mem_drop (List.mem_of_mem_take hx))
theorem chunk_patch_other {L x : List Nat} {o i : Nat} (h : o + x.length ≤ L.length) (hd : o + x.length ≤ 512 * i ∨ 512 * i + 512 ≤ o) : chunk (patch L o x) i = chunk L i := by
  apply List.ext_getElem?
  intro j
  rw [chunk_get, chunk_get]
  by_cases hj : j < 512
  · rw [if_pos hj, if_pos hj, patch_get h, if_neg (by omega)]
  · rw [if_neg hj, if_neg hj]
theorem chunk_patch_in {L x : List Nat} {o i : Nat} (h : 512 * i + 512 ≤ L.length) (hx : o + x.length ≤ 512) : chunk (patch L (512 * i + o) x) i = patch (chunk L i) o x := by
  apply List.ext_getElem?
  intro j
  have hl := chunk_length h
  rw [chunk_get, patch_get (L := chunk L i) (by omega), chunk_get]
  by_cases hj : j < 512
  · rw [if_pos hj, if_pos hj, patch_get (by omega)]
    by_cases h1 : o ≤ j ∧ j < o + x.length
    · rw [if_pos h1, if_pos (by omega)]
      congr 1; omega
    · rw [if_neg h1, if_neg (by omega)]
  · rw [if_neg hj, if_neg hj, if_neg (by omega)]
theorem chunk_turnS {mask : Nat} {L : List Nat} {i : Nat} (h : 512 + 512 * i + 512 ≤ L.length) (k : Nat) : chunk (turnS mask L i) k = if k = i + 1 then turn mask (chunk L k) else chunk L k := by
  unfold turnS
  by_cases hk : k = i + 1
  · rw [if_pos hk]
    subst hk
    have e0 : 512 + 512 * i = 512 * (i + 1) := by omega
    have e : (L.drop (512 + 512 * i)).take 2 = ((chunk L (i + 1)).drop 0).take 2 := by
      unfold chunk
      rw [List.drop_zero, List.take_take, e0]
      rfl
    rw [e, ← patch_turn, e0]
    exact chunk_patch_in (o := 0) (by omega) (by rw [num_length]; omega)
  · rw [if_neg hk]
    exact chunk_patch_other (by rw [num_length]; omega) (by rw [num_length]; omega)
set_option maxRecDepth 100000 in
theorem chunk_turnAll {mask : Nat} {L : List Nat} (k : Nat) : 512 + 512 * k ≤ L.length → ∀ i, chunk (turnAll mask L (List.range k)) i = if 1 ≤ i ∧ i ≤ k then turn mask (chunk L i) else chunk L i := by
  induction k with
  | zero =>
    intro _ i
    rw [if_neg (by omega)]
    rfl
  | succ k ih =>
    intro h i
    have hk : 512 + 512 * k + 512 ≤ L.length := by rw [Nat.mul_succ] at h; exact h
    have hl : (turnAll mask L (List.range k)).length = L.length := turnAll_length _ _ (fun j hj => List.mem_range.1 hj) (by omega)
    have ih := ih (by omega) i
    have e := chunk_turnS (mask := mask) (L := turnAll mask L (List.range k)) (i := k) (by rw [hl]; exact hk) i
    rw [ih] at e
    rw [List.range_succ, turnAll_snoc, e]
    clear ih e hl hk h
    by_cases h1 : i = k + 1
    · rw [if_pos h1, if_neg (by omega), if_pos (by omega)]
    · rw [if_neg h1]
      by_cases h2 : 1 ≤ i ∧ i ≤ k
      · rw [if_pos h2, if_pos (by omega)]
      · rw [if_neg h2, if_neg (by omega)]
/-- The mask of a batch. -/
def maskB (b : List (List Nat)) : Nat := maskOf (raw b) 512 (need b - 1)
theorem packed_turned (b : List (List Nat)) : (turnAll (maskB b) (raw b) (List.range (need b - 1))).length = 512 * need b := by
  have h := need_fits b
  rw [turnAll_length _ _ (fun j hj => List.mem_range.1 hj) (by rw [raw_length]; omega), raw_length]
theorem packed_first (n : Nat) (b : List (List Nat)) : chunk (packed n b) 0 = top b.length (maskB b) n ++ ((raw b).drop 16).take 496 := by
  have h := need_fits b
  have h1 := packed_turned b
  have h2 : (chunk (raw b) 0).length = 512 := chunk_length (by rw [raw_length]; omega)
  unfold packed
  have e := chunk_patch_in (L := turnAll (maskB b) (raw b) (List.range (need b - 1))) (x := top b.length (maskB b) n) (o := 0) (i := 0) (by omega) (by rw [top_length]; omega)
  rw [Nat.mul_zero, Nat.add_zero] at e
  refine e.trans ?_
  rw [chunk_turnAll _ (by rw [raw_length]; omega), if_neg (by omega)]
  unfold patch chunk
  rw [List.take_zero, List.nil_append, top_length, Nat.mul_zero, List.drop_zero, List.drop_take]
theorem packed_later {n : Nat} {b : List (List Nat)} {i : Nat} (hi : i + 1 < need b) : chunk (packed n b) (i + 1) = turn (maskB b) (chunk (raw b) (i + 1)) := by
  have h1 := packed_turned b
  unfold packed
  have e := chunk_patch_other (L := turnAll (maskB b) (raw b) (List.range (need b - 1))) (x := top b.length (maskB b) n) (o := 0) (i := i + 1) (by rw [top_length]; omega) (by rw [top_length]; omega)
  refine e.trans ?_
  rw [chunk_turnAll _ (by rw [raw_length]; omega), if_pos (by omega)]
theorem chunks_flat (P : List Nat) : ∀ K, (List.range K).flatMap (chunk P) = P.take (512 * K)
  | 0 => by simp
  | K + 1 => by
    rw [List.range_succ, List.flatMap_append, chunks_flat P K]
    simp only [List.flatMap_cons, List.flatMap_nil, List.append_nil]
    rw [Nat.mul_succ, List.take_add]
    rfl
theorem raw_body (b : List (List Nat)) : (raw b).drop 16 = body b ++ List.replicate (512 * need b - (16 + bodyLen b)) 0 := by
  have h := need_fits b
  unfold raw patch
  have h1 : ((List.replicate (512 * need b) 0).take 16).length = 16 := by rw [List.length_take, List.length_replicate]; omega
  rw [List.append_assoc, List.drop_left' h1, List.drop_replicate, body_length]
theorem raw_bytes {b : List (List Nat)} (h : ∀ r ∈ b, ∀ x ∈ r, x < 256) : ∀ x ∈ raw b, x < 256 :=
  patch_bytes (fun y hy => by have := (List.mem_replicate.1 hy).2; omega) (body_bytes h)
theorem top_get (c M n : Nat) : (top c M n).length = 16 := top_length _ _ _

/-- A batch that was laid on these sectors of what V tells. -/
structure Lies (s : LS) (V : Nat → List Nat) (place number : Nat) (B : List (List Nat)) : Prop where
  fits : place + need B ≤ s.ring
  good : Wal.good B = true
  bytes : ∀ r ∈ B, ∀ x ∈ r, x < 256
  at_ : ∀ i, i < need B → sec (V (sector s (place + i))) = chunk (packed number B) i
end Wal

theorem need_of_good {B : List (List Nat)} (h : Wal.good B = true) : need B ≤ 1209 := by
  unfold Wal.good at h
  simp only [Bool.and_eq_true, decide_eq_true_eq, List.all_eq_true] at h
  have h5 := bodyLen_le (b := B) (k := 600) (fun r hr => h.1.1 r hr)
  have h6 : bodyLen B ≤ 618496 := by omega
  unfold need; omega

/-- What was laid is what is read. -/
theorem Wal.Lies.batch {s : LS} {m : Dsk.DM} {place number : Nat} {B : List (List Nat)} (h : Lies s (fun i => m.seen.getD i []) place number B) : BatchAt s m place number B := by
  have hn := need_fits B
  have h9 := need_of_good h.good
  have hM : maskB B ≤ need B - 1 := maskOf_le _ _ _
  have hrb := raw_bytes h.bytes
  obtain ⟨K, hK⟩ : ∃ K, need B = K + 1 := ⟨need B - 1, by omega⟩
  obtain ⟨J, hJ⟩ : ∃ J, s.ring - (place + 1) = K + J := ⟨s.ring - (place + 1) - K, by have := h.fits; omega⟩
  refine ⟨maskB B, ((raw B).drop 16).take 496, List.replicate (512 * need B - (16 + bodyLen B)) 0 ++ inFlat s m (maskB B) (place + 1 + K) J, by omega, fun x hx => hrb x (List.mem_of_mem_drop (List.mem_of_mem_take hx)), ?_, ?_⟩
  · have := h.at_ 0 (by omega)
    rw [Nat.add_zero] at this
    exact this.trans (packed_first _ _)
  · have hf := h.fits
    have e2 : inFlat s m (maskB B) (place + 1) K = (raw B).drop 512 := by
      have e3 : inFlat s m (maskB B) (place + 1) K = (List.range K).flatMap fun i => chunk ((raw B).drop 512) i := by
        unfold inFlat
        rw [List.flatMap_def, List.flatMap_def]
        congr 1
        refine List.map_congr_left fun i hi => ?_
        have hi' := List.mem_range.1 hi
        have h1 := h.at_ (i + 1) (by omega)
        unfold inSect
        rw [show place + 1 + i = place + (i + 1) by omega]
        show turn (maskB B) (sec (m.seen.getD (sector s (place + (i + 1))) [])) = _
        rw [show sec (m.seen.getD (sector s (place + (i + 1))) []) = _ from h1, packed_later (by omega), turn_turn (by rw [chunk_length (by rw [raw_length]; omega)]; omega) (chunk_bytes hrb _) (by omega)]
        unfold chunk
        rw [List.drop_drop]
        congr 2
        omega
      rw [e3, chunks_flat, List.take_of_length_le (by rw [List.length_drop, raw_length]; omega)]
    rw [hJ, inFlat_add, e2, ← List.append_assoc, ← List.append_assoc, ← raw_body]
    congr 1
    have e4 : (raw B).drop 512 = ((raw B).drop 16).drop 496 := by rw [List.drop_drop]
    rw [e4, List.take_append_drop]
end Go.Proofs.YtkajneeihhobhaaGreat
