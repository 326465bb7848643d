/-
  pager: the contracts of a transaction's Read and Write, of Begin. · pager: the contracts of Begin, of newPager, erase, check and Make. · pager: the contract of Make, on a fresh disk.
-/
import Derived.Test.YtkajneeihhobhaaGreatMPgA
namespace Go.Proofs.YtkajneeihhobhaaGreat
open Go.RowKit Go.Maps Wal

/-- What a transaction reads at a block. -/
def PS.got (P : PS) (g : Nat → Option (List Nat)) (b : Nat) : List Nat := (g b).getD (P.at_ b)
theorem PS.at_blk {w : World} {P : PS} {tx : Value} (h : PagAt w P tx) (b : Nat) : Blk (P.at_ b) := by
  unfold PS.at_
  cases hf : P.f b with
  | some l => exact (h.away.blk hf).2
  | none =>
    refine Blk.sec ?_
    exact h.log.disk.good.seen_bytes.getD _
theorem PS.got_blk {w : World} {P : PS} {tx : Value} {t tm : Nat} {g : Nat → Option (List Nat)} (h : PagAt w P tx) (k : TxAt w P t tm g) (b : Nat) : Blk (P.got g b) := by
  unfold PS.got
  cases hf : g b with
  | some l => exact (k.dirty.blk hf).2
  | none => exact PS.at_blk h b
/-- A transaction was called, and its pager lives: the pager's mark was stored. -/
theorem woken {w : World} {P : PS} {t tm : Nat} {g : Nat → Option (List Nat)} (h : PagAt w P (.pointer (some ⟨t, 0, none⟩))) (k : TxAt w P t tm g) (hd : P.dead = false) (q : Nat) :
    PagAt ((w.setCell ⟨P.p, 5, none⟩ (.bool false)).drewN q) P (.pointer (some ⟨t, 0, none⟩)) ∧ TxAt ((w.setCell ⟨P.p, 5, none⟩ (.bool false)).drewN q) P t tm g ∧ Only [P.p] w ((w.setCell ⟨P.p, 5, none⟩ (.bool false)).drewN q) := by
  have hP : { P with dead := false } = P := by rw [← hd]
  have h1 := h.setDead false
  have k1 := k.beside false
  rw [hP] at h1 k1
  exact ⟨h1.drewN q, k1.drewN q, ((Only.refl _ w).setCell (.inl (by simp)) _).drewN q⟩

set_option maxRecDepth 100000 in
set_option maxHeartbeats 1600000 in
theorem tread_any (w : World) (P : PS) (t tm : Nat) (g : Nat → Option (List Nat)) (b : Nat) (h : PagAt w P (.pointer (some ⟨t, 0, none⟩))) (k : TxAt w P t tm g) (hb : b < P.N) (hd : P.dead = false) (hm : P.m.dead = false) :
    Calls Tryz.prog 28 #[.pointer (some ⟨t, 0, none⟩), .int .i64 (b : Int)] w fun e w' => Told512 w P (.pointer (some ⟨t, 0, none⟩)) (P.got g b) e w' ∧ TxAt w' P t tm g := by
  have hmost := h.most
  have TA := Lib.hid (talive_any w P t tm g h k)
  rw [hd, hm] at TA
  have HP : Hid ({ P with dead := false } = P) := by show _ = _; rw [← hd]
  have WK := Lib.hid (woken h k hd)
  have HB : Hid (b < P.N ∧ P.dead = false ∧ P.m.dead = false) := ⟨hb, hd, hm⟩
  obtain ⟨hz, hi⟩ := zero_of_info zeroBlk
  unfold blkV at hz
  have tlt := k.held.lt
  have k2 : (b : Int) ≤ 4096 := by omega
  clear h k hb hd hm hi
  go_enter Tryz.func28, Tryz.ntmps28
  go_wp2_with fail
  refine TA.out.mono ?_
  rintro e w1 ⟨rfl, rfl⟩
  obtain ⟨h1, k1, o1⟩ := WK.out 0
  rw [show (w.setCell ⟨P.p, 5, none⟩ (.bool false)).drewN 0 = w.setCell ⟨P.p, 5, none⟩ (.bool false) from rfl] at h1 k1 o1
  have PH := Lib.hid (phas_any _ P _ (b : Int) h1)
  rw [decide_eq_true (show 0 ≤ (b : Int) ∧ (b : Int) < (P.N : Int) by have := HB.out.1; omega)] at PH
  have t0 : (w.setCell ⟨P.p, 5, none⟩ (.bool false)).cell? ⟨t, 0, none⟩ = some (.pointer (some ⟨P.p, 0, none⟩)) := k1.held.cell 0
  clear TA h1 k1 o1
  have ed : deadErr (false || false) = 0 := rfl
  rw [show (false || false) = false from rfl] at ed ⊢
  rw [ed]
  generalize w.setCell ⟨P.p, 5, none⟩ (.bool false) = w1 at *
  go_wp2_with fail
  refine PH.out.mono ?_
  rintro e w2 ⟨rfl, q, hw2⟩
  obtain ⟨h2, k2', o2⟩ := WK.out q
  rw [← hw2] at h2 k2' o2
  have H2 := Lib.hid h2
  have K2 := Lib.hid k2'
  have O2 := Lib.hid o2
  have t0 : w2.cell? ⟨t, 0, none⟩ = some (.pointer (some ⟨P.p, 0, none⟩)) := k2'.held.cell 0
  have t1 : w2.cell? ⟨t, 1, none⟩ = some (.map (some tm)) := k2'.held.cell 1
  have lk := k2'.dirty.look b (by omega)
  clear h2 k2' o2 PH WK hw2
  cases hg : g b with
  | some l =>
    rw [hg] at lk
    have hl : Blk l := (K2.out.dirty.blk hg).2
    have hs := store_blk w2 l hl
    have hlen := hl.len
    have ea : P.got g b = l := by unfold PS.got; rw [hg]; rfl
    simp only [Option.getD_some, Option.isSome_some] at lk
    unfold blkV at lk
    have EA := Lib.hid ea
    clear ea hg hl
    go_wp2_with fail
    go_ret2
    rw [EA.out]
    exact ⟨⟨⟨_, _, rfl, O2.out.size, Held.new _ _ _ rfl⟩, by rw [HP.out]; exact H2.out.alloc _, O2.out.alloc _⟩, K2.out.alloc _⟩
  | none =>
    rw [hg] at lk
    have hs := store_blk w2 (sec []) Blk.zero
    have hlen := sec_length []
    have ea : P.got g b = P.at_ b := by unfold PS.got; rw [hg]; rfl
    simp only [Option.getD_none, Option.isSome_none] at lk
    unfold blkV at lk
    have EA := Lib.hid ea
    clear ea hg
    go_upto_region 9 with fail
    obtain ⟨w3, hw3⟩ : ∃ w3, w3 = w2.alloc (.cells ((sec []).map u8v).toArray 99) := ⟨_, rfl⟩
    have BW : Hid (Below w2.heap.size w2 w3) := by rw [hw3]; exact (Below.refl _ _).alloc (Nat.le_refl _) _
    have H3 := Lib.hid (H2.out.under BW.out)
    have K3 := Lib.hid (K2.out.under BW.out)
    rw [← hw3]
    have s0 : w3.cell? ⟨t, 0, none⟩ = some (.pointer (some ⟨P.p, 0, none⟩)) := K3.out.held.cell 0
    have PR := Lib.hid (pread_any w3 P _ b H3.out HB.out.1 HB.out.2.1 HB.out.2.2)
    clear hw3 t0 t1 lk hs hlen hz
    go_wp2_with fail
    refine PR.out.mono ?_
    rintro e w4 ⟨⟨q4, T4, rfl, hq4, hh4⟩, hp4, ho4⟩
    have S4 : Hid (Only [P.p] w w4) := (O2.out.trans (Only.of_below (F := []) BW.out) (fun _ hx => by cases hx)).trans ho4 (fun x hx => .inl hx)
    have K4 := Lib.hid (K3.out.only ho4 (by simpa using K3.out.ne.1) (by simpa using K3.out.ne.2.2.2.1))
    have Q4 : Hid (w.heap.size ≤ q4 ∧ Held w4 q4 T4 ((P.at_ b).map u8v).toArray) := ⟨Nat.le_trans (Nat.le_trans O2.out.size BW.out.size) hq4, hh4⟩
    have P4 := Lib.hid hp4
    clear hp4 ho4 hq4 hh4 PR
    go_wp2_with fail
    go_ret2
    rw [EA.out]
    exact ⟨⟨⟨q4, T4, rfl, Q4.out.1, Q4.out.2⟩, P4.out, S4.out⟩, K4.out⟩

set_option maxRecDepth 100000 in
theorem sec_of (l : List Nat) (n : Nat) (h : l.length = n) (hn : n ≤ 512) : l ++ (sec []).drop n = sec l := by
  rw [sec_short (l := l) (by omega), sec_short (l := []) (Nat.zero_le _), List.nil_append, List.drop_replicate, h]
  rfl
theorem load_held {w : World} {q : Nat} {T : TypeId} {l : List Nat} (h : Held w q T (l.map u8v).toArray) (hl : Blk l) : (loadCellsFrom ⟨q, 0, none⟩ 0 512 #[]).run Tryz.prog w = .ok (l.map u8v).toArray w := by
  have := run_loadCells_list (P := Tryz.prog) w ⟨q, 0, none⟩ (l.map u8v) (fun j v hv => by
    have hadd : (⟨q, 0, none⟩ : Addr).add j = ⟨q, j, none⟩ := by unfold Addr.add; split <;> simp_all
    rw [hadd, h.cell]
    simpa using hv)
  rw [List.length_map, hl.len] at this
  exact this
set_option maxRecDepth 100000 in
theorem copy_blk (w : World) (A : Option Addr) (n c : Nat) (l : List Nat) (ty : TypeId) (hb : Bts w A n l) (hn : n ≤ 512) :
    (Builtin.copy_ #[56, 56] ty #[.slice (some ⟨w.heap.size, 0, none⟩) 512 512, .slice A n c]).run Tryz.prog (w.alloc (.cells ((sec []).map u8v).toArray 99)) = .ok (goInt n) (w.alloc (.cells ((sec l).map u8v).toArray 99)) := by
  obtain ⟨i, hi, _, hi1, _⟩ := info_parts info5
  have hs : (Tryz.prog.info? 5).map (·.size) = some 1 := by rw [hi]; simp [hi1]
  rcases Nat.eq_zero_or_pos n with h0 | h0
  · subst h0
    have hl : l = [] := List.eq_nil_of_length_eq_zero hb.1
    subst hl
    exact run_copy_none (P := Tryz.prog) _ 56 56 ty 5 _ A 512 512 0 c Tryz.underlying56 hs (by simp)
  · obtain ⟨b, o, rfl, hlt, hc⟩ := hb.2.2 h0
    have hlen : (l.map u8v).length = n := by rw [List.length_map, hb.1]
    have := run_copy_row (P := Tryz.prog) (w.alloc (.cells ((sec []).map u8v).toArray 99)) 56 56 ty 5 w.heap.size 0 512 512 ⟨b, o, none⟩ n c ((sec []).map u8v).toArray 99 (l.map u8v) Tryz.underlying56 hs (heap_alloc_last w _)
      (by rw [hlen]; exact (Nat.min_eq_left hn).symm) (fun j v hv => by
        have h1 := hb.at_ rfl j v hv
        have h2 : (w.alloc (.cells ((sec []).map u8v).toArray 99)).cell? ((⟨b, o, none⟩ : Addr).add j) = w.cell? ((⟨b, o, none⟩ : Addr).add j) := World.cell?_alloc_lt _ _ _ (by
          have : ((⟨b, o, none⟩ : Addr).add j).block = b := by unfold Addr.add; split <;> rfl
          rw [this]; exact hlt)
        rw [h2]
        exact h1) (by rw [hlen]; simp [sec_length]; exact hn) (fun v hv => by obtain ⟨x, _, rfl⟩ := List.mem_map.1 hv; rfl)
    rw [hlen, World.setRow_alloc_new] at this
    rw [this]
    have e : (((sec []).map u8v).toArray.toList.take 0 ++ l.map u8v ++ ((sec []).map u8v).toArray.toList.drop (0 + n)) = (sec l).map u8v := by
      rw [List.take_zero, List.nil_append, Nat.zero_add, ← List.map_drop, ← List.map_append, sec_of l n hb.1 hn]
    rw [e]
set_option maxRecDepth 100000 in
set_option maxHeartbeats 1600000 in
theorem twrite_any (w : World) (P : PS) (t tm : Nat) (g : Nat → Option (List Nat)) (b : Nat) (A : Option Addr) (n c : Nat) (l : List Nat) (h : PagAt w P (.pointer (some ⟨t, 0, none⟩))) (k : TxAt w P t tm g) (hb : b < P.N) (hd : P.dead = false) (hm : P.m.dead = false)
    (hl : Bts w A n l) (hn : n ≤ 512) (hA : 0 < n → ∀ x, A = some x → x.block ≠ P.p ∧ x.block ≠ tm) :
    Calls Tryz.prog 27 #[.pointer (some ⟨t, 0, none⟩), .int .i64 (b : Int), .slice A n c] w fun e w' => e = .returned (.int .i64 0) ∧ PagAt w' P (.pointer (some ⟨t, 0, none⟩)) ∧ TxAt w' P t tm (upd g b (sec l)) ∧ Only [P.p, tm] w w' := by
  have hmost := h.most
  have TA := Lib.hid (talive_any w P t tm g h k)
  rw [hd, hm] at TA
  have WK := Lib.hid (woken h k hd)
  have HB : Hid (b < P.N ∧ P.dead = false ∧ P.m.dead = false) := ⟨hb, hd, hm⟩
  obtain ⟨hz, hi⟩ := zero_of_info zeroBlk
  unfold blkV at hz
  have k2 : (b : Int) ≤ 4096 := by omega
  have k3 : (n : Int) ≤ 512 := by omega
  have BL := Lib.hid hl
  have HA := Lib.hid hA
  clear h k hb hd hm hi hl hA
  go_enter Tryz.func27, Tryz.ntmps27
  go_wp2_with fail
  refine TA.out.mono ?_
  rintro e w1 ⟨rfl, rfl⟩
  obtain ⟨h1, k1, o1⟩ := WK.out 0
  rw [show (w.setCell ⟨P.p, 5, none⟩ (.bool false)).drewN 0 = w.setCell ⟨P.p, 5, none⟩ (.bool false) from rfl] at h1 k1 o1
  have PH := Lib.hid (phas_any _ P _ (b : Int) h1)
  rw [decide_eq_true (show 0 ≤ (b : Int) ∧ (b : Int) < (P.N : Int) by have := HB.out.1; omega)] at PH
  have t0 : (w.setCell ⟨P.p, 5, none⟩ (.bool false)).cell? ⟨t, 0, none⟩ = some (.pointer (some ⟨P.p, 0, none⟩)) := k1.held.cell 0
  clear TA h1 k1 o1
  have ed : deadErr (false || false) = 0 := rfl
  rw [show (false || false) = false from rfl] at ed ⊢
  rw [ed]
  generalize w.setCell ⟨P.p, 5, none⟩ (.bool false) = w1 at *
  go_wp2_with fail
  refine PH.out.mono ?_
  rintro e w2 ⟨rfl, q, hw2⟩
  obtain ⟨h2, k2', o2⟩ := WK.out q
  rw [← hw2] at h2 k2' o2
  have H2 := Lib.hid h2
  have K2 := Lib.hid k2'
  have O2 := Lib.hid o2
  have B2 : Hid (Bts w2 A n l) := o2.bts BL.out (fun h0 x hx => by simpa using (HA.out h0 x hx).1)
  clear h2 k2' o2 PH WK hw2 t0
  go_upto_region 7 with fail
  have cp := fun ty => copy_blk w2 A n c l ty B2.out hn
  go_upto_region 8 with fail
  obtain ⟨w3, hw3⟩ : ∃ w3, w3 = w2.alloc (.cells ((sec l).map u8v).toArray 99) := ⟨_, rfl⟩
  obtain ⟨q3, hq3⟩ : ∃ q3, q3 = w2.heap.size := ⟨_, rfl⟩
  have hl : Blk (sec l) := Blk.sec B2.out.2.1
  have HL := Lib.hid hl
  have BW : Hid (Below w2.heap.size w2 w3) := by rw [hw3]; exact (Below.refl _ _).alloc (Nat.le_refl _) _
  have QM : Hid (q3 ≠ tm) := by
    show _ ≠ _
    have := K2.out.dirty.lt
    omega
  have Q3 : Hid (Held w3 q3 99 ((sec l).map u8v).toArray) := by rw [hw3]; exact Held.new _ _ _ hq3
  have H3 := Lib.hid (H2.out.under BW.out)
  have K3 := Lib.hid (K2.out.under BW.out)
  rw [← hw3, ← hq3]
  clear hw3 hq3 cp hz
  have s1 : w3.cell? ⟨t, 1, none⟩ = some (.map (some tm)) := K3.out.held.cell 1
  obtain ⟨w4, hr, hm4, ho4⟩ := (show MapAt w3.drew tm P.N g from K3.out.dirty).store (by omega) HB.out.1 hl
  have M4 := Lib.hid hm4
  have O4 : Hid (Only [tm] w3 w4) := ((Only.refl [tm] w3).drew).trans ho4 (fun x hx => .inl hx)
  have hsz : (Tryz.prog.info? 99).map (·.size) = some ((sec l).map u8v).length := by rw [List.length_map, sec_length]; exact (zero_of_info zeroBlk).2
  have ld : w3.rangeAt q3 0 ((sec l).map u8v) := fun j v hv => by rw [Nat.zero_add, Q3.out.cell]; simpa using hv
  clear hm4 ho4 hl
  refine wp_region_noPanic ?_
  refine wp_region_held_drew (S := fun w' => w'.cell? ⟨t, 1, none⟩ = some (.map (some tm)) ∧ w'.rangeAt q3 0 ((sec l).map u8v)) (by kernel_rfl) ⟨s1, ld⟩ (fun hHeld => ?_)
  refine take_ (i := 0) (v := ?_) 29 rfl rfl (by kernel_rfl) (by kernel_rfl) (by kernel_rfl) (fun _ _ _ h => h) (Or.inl ⟨by rfl, ?_⟩) (by assumption) ?_
  rotate_left
  · (intro wS hSw; (try dsimp only at hSw); go_simp; try with_reducible rfl)
  simp only [Act.put, List.setIfInBounds_toArray, List.set_cons_zero, List.set_cons_succ]
  refine take_ (i := 1) (v := ?_) 30 rfl rfl (by kernel_rfl) (by kernel_rfl) (by kernel_rfl) (fun _ _ _ h => h) (Or.inl ⟨by rfl, ?_⟩) (by assumption) ?_
  rotate_left
  · (intro wS hSw; (try dsimp only at hSw); go_simp; try with_reducible rfl)
  simp only [Act.put, List.setIfInBounds_toArray, List.set_cons_zero, List.set_cons_succ]
  refine take_ (i := 2) (v := ?_) 31 rfl rfl (by kernel_rfl) (by kernel_rfl) (by kernel_rfl) (fun _ _ _ h => h) (Or.inl ⟨by rfl, ?_⟩) (by assumption) ?_
  rotate_left
  · (intro wS hSw; (try dsimp only at hSw); go_simp; try with_reducible rfl)
  simp only [Act.put, List.setIfInBounds_toArray, List.set_cons_zero, List.set_cons_succ]
  refine take_ (i := 3) (v := ?_) 32 rfl rfl (by kernel_rfl) (by kernel_rfl) (by kernel_rfl) (fun _ _ _ h => h) (Or.inl ⟨by rfl, ?_⟩) (by assumption) ?_
  rotate_left
  · (intro wS hSw; (try dsimp only at hSw); go_simp; try with_reducible rfl)
  simp only [Act.put, List.setIfInBounds_toArray, List.set_cons_zero, List.set_cons_succ]
  refine take_ (i := 4) (v := ?_) 33 rfl rfl (by kernel_rfl) (by kernel_rfl) (by kernel_rfl) (fun _ _ _ h => h) (Or.inl ⟨by rfl, ?_⟩) (by assumption) ?_
  rotate_left
  · (intro wS hSw; (try dsimp only at hSw); go_simp; try with_reducible rfl)
  simp only [Act.put, List.setIfInBounds_toArray, List.set_cons_zero, List.set_cons_succ]
  refine take_ (i := 5) (v := blkV (sec l)) 34 rfl rfl (by kernel_rfl) (by kernel_rfl) (by kernel_rfl) (fun _ _ _ h => h) (yieldsIf_load_mid (by rfl) _ _ rfl q3 0 rfl _ _ (fun w h => h.2) Tryz.underlying99 rfl hsz) (by assumption) ?_
  simp only [Act.put, List.setIfInBounds_toArray, List.set_cons_zero, List.set_cons_succ]
  refine one_ (i := 6) _ (by kernel_rfl) rfl (fun K hK => ?_)
  go_simp
  have c1' : w4.cell? ⟨t, 1, none⟩ = some (.map (some tm)) := (O4.out.cell (p := ⟨t, 1, none⟩) K3.out.held.lt (by simpa using K3.out.ne.2.2.1)).trans s1
  have ld' : w4.rangeAt q3 0 ((sec l).map u8v) := fun j v hv => (O4.out.cell (p := ⟨q3, 0 + j, none⟩) Q3.out.lt (by simpa using QM.out)).trans (ld j v hv)
  have S4 : Hid (Only [P.p, tm] w w4) := ((O2.out.mono (fun x hx => .inl (by simpa using Or.inl (by simpa using hx)))).trans (Only.of_below (F := []) BW.out) (fun _ hx => by cases hx)).trans O4.out (fun x hx => .inl (by simpa using Or.inr (by simpa using hx)))
  have P4 := Lib.hid (H3.out.only O4.out (by simpa using K3.out.ne.2.2.2.1.symm) (by simpa using K3.out.ne.2.2.2.2.symm) (fun x hx => by
    have := K3.out.mfar
    simp only [List.mem_singleton]
    rintro rfl
    exact this hx))
  have K4 : Hid (TxAt w4 P t tm (upd g b (sec l))) := ⟨K3.out.held.only O4.out (by simpa using K3.out.ne.2.2.1), M4.out, K3.out.ne, K3.out.tfar, K3.out.mfar⟩
  clear hr s1 ld hHeld
  refine hK.out _ _ ⟨c1', ld'⟩ (fun hHeld => ?_)
  clear hK K
  refine wpAnyH_done (by kernel_rfl) ?_ _
  refine NoPanic.normal ?_
  go_wp2_with fail
  go_ret
  exact ⟨rfl, P4.out, K4.out, S4.out⟩
end Go.Proofs.YtkajneeihhobhaaGreat

namespace Go.Proofs.YtkajneeihhobhaaGreat
open Go.RowKit Go.Maps Wal

set_option maxRecDepth 100000 in
set_option maxHeartbeats 1600000 in
/-- Begin, where no transaction is open. -/
theorem begin_any (w : World) (P : PS) (h : PagAt w P (.pointer none)) (hd : P.dead = false) (hm : P.m.dead = false) :
    Calls Tryz.prog 14 #[.pointer (some ⟨P.p, 0, none⟩)] w fun e w' => ∃ t tm, e = .returned (.tuple #[.pointer (some ⟨t, 0, none⟩), .int .i64 0]) ∧ w.heap.size ≤ t ∧ w.heap.size ≤ tm ∧ PagAt w' P (.pointer (some ⟨t, 0, none⟩)) ∧ TxAt w' P t tm (fun _ => none) ∧ Only [P.p] w w' := by
  have TA := Lib.hid (palive_any w P _ h)
  rw [hd, hm] at TA
  have HP : { P with dead := false } = P := by rw [← hd]
  have h1 := h.setDead false
  rw [HP] at h1
  have H1 := Lib.hid h1
  have O1 : Hid (Only [P.p] w (w.setCell ⟨P.p, 5, none⟩ (.bool false))) := (Only.refl _ w).setCell (.inl (by simp)) _
  have c4 : (w.setCell ⟨P.p, 5, none⟩ (.bool false)).cell? ⟨P.p, 4, none⟩ = some (.pointer none) := h1.held.cell 4
  have hmm := @run_makeMap Tryz.prog
  clear h h1 HP
  go_enter Tryz.func14, Tryz.ntmps14
  go_wp2_with fail
  refine TA.out.mono ?_
  rintro e w1 ⟨rfl, rfl⟩
  clear TA
  have ed : deadErr (false || false) = 0 := rfl
  rw [show (false || false) = false from rfl] at ed ⊢
  rw [ed]
  generalize w.setCell ⟨P.p, 5, none⟩ (.bool false) = w1 at *
  obtain ⟨wa, hwa⟩ : ∃ wa, wa = (w1.alloc (.map #[] 0)).alloc (.cells #[.pointer (some ⟨P.p, 0, none⟩), .map (some w1.heap.size)] 91) := ⟨_, rfl⟩
  have BW : Hid (Below w1.heap.size w1 wa) := by rw [hwa]; exact ((Below.refl _ _).alloc (Nat.le_refl _) _).alloc (by simp) _
  have HA := Lib.hid (H1.out.under BW.out)
  obtain ⟨tm, htm⟩ : ∃ tm, tm = w1.heap.size := ⟨_, rfl⟩
  have T1 : Hid (Held wa (w1.heap.size + 1) 91 #[.pointer (some ⟨P.p, 0, none⟩), .map (some tm)]) := by rw [hwa, htm]; exact Held.new _ _ _ (by simp)
  have M1 : Hid (MapAt wa tm P.N (fun _ => none)) := by
    rw [hwa]
    exact (MapAt.made w1 htm P.N).only ((Only.refl [] _).alloc _) (by simp)
  have LT := Lib.hid H1.out.lt
  have c4 := HA.out.held.cell 4
  have z4 := HA.out.held.frozen 4
  rw [hwa] at c4 z4
  go_upto_region 7 with fail
  rw [← hwa, ← htm]
  rw [← htm] at T1
  obtain ⟨t, ht⟩ : ∃ t, t = tm + 1 := ⟨_, rfl⟩
  rw [← ht] at T1 ⊢
  have ho : Only [P.p] wa (wa.setCell ⟨P.p, 4, none⟩ (.pointer (some ⟨t, 0, none⟩))) := (Only.refl _ wa).setCell (.inl (by simp)) _
  have hs := O1.out.size
  have hn : P.p ≠ t ∧ P.p ≠ tm := by have := LT.out.1; omega
  have PB := Lib.hid (HA.out.setTx (.pointer (some ⟨t, 0, none⟩)))
  have TB : Hid (TxAt (wa.setCell ⟨P.p, 4, none⟩ (.pointer (some ⟨t, 0, none⟩))) P t tm (fun _ => none)) := by
    have h1 := LT.out.1
    have h2 := LT.out.2.1
    exact ⟨T1.out.only ho (by simpa using hn.1.symm), M1.out.only ho (by simpa using hn.2.symm), ⟨by omega, by omega, by omega, by omega, by omega⟩, fun hx => by have := LT.out.2.2 _ hx; omega, fun hx => by have := LT.out.2.2 _ hx; omega⟩
  have OB : Hid (Only [P.p] w (wa.setCell ⟨P.p, 4, none⟩ (.pointer (some ⟨t, 0, none⟩)))) := (O1.out.trans (Only.of_below (F := []) BW.out) (fun _ hx => by cases hx)).trans ho (fun x hx => .inl hx)
  have GE : Hid (w.heap.size ≤ t ∧ w.heap.size ≤ tm) := ⟨by omega, by omega⟩
  have c4 : (wa.setCell ⟨P.p, 4, none⟩ (.pointer (some ⟨t, 0, none⟩))).cell? ⟨P.p, 4, none⟩ = some (.pointer (some ⟨t, 0, none⟩)) := PB.out.held.cell 4
  clear hwa htm ht ho hs hn
  generalize wa.setCell ⟨P.p, 4, none⟩ (.pointer (some ⟨t, 0, none⟩)) = wb at *
  go_wp2_with fail
  go_ret2
  exact ⟨t, tm, rfl, GE.out.1, GE.out.2, PB.out, TB.out, OB.out⟩

namespace Dsk
/-- k sectors from a on, written with nothing. -/
def wrs (m : DM) (a : Nat) : Nat → DM
  | 0 => m
  | k + 1 => (wrs m a k).write ((a + k : Nat) : Int) []
def erased (m : DM) (a b : Nat) : DM := (wrs m a (b - a)).flush
section
variable {m : DM} {a : Nat}
structure Calm (m m' : DM) (k : Nat) : Prop where
  dead : m'.dead = false
  fuel : m'.fuel = -1
  dur : m'.dur = m.dur
  wait : m'.wait.length = m.wait.length + k
theorem write_calm {m : DM} {i : Nat} {l : List Nat} (hd : m.dead = false) (hf : m.fuel = -1) (hi : i < m.dur.length) (hl : l.length ≤ 512) : m.writeErr (i : Int) l.length = 0 ∧ m.write (i : Int) l = { m with wait := m.wait ++ [(i, l)] } := by
  have h1 : ¬ (¬ (0 ≤ (i : Int) ∧ (i : Int) < (m.dur.length : Int)) ∨ 512 < l.length) := by omega
  have hb : m.burn = m := by simp [DM.burn, hf]
  refine ⟨?_, ?_⟩
  · simp [DM.writeErr, hd, hf, hi]
    omega
  · unfold DM.write
    rw [if_neg (by rw [hd]; simp), if_neg h1, if_neg (by rw [hf]; decide), hb]
    simp
theorem wrs_calm (hd : m.dead = false) (hf : m.fuel = -1) : ∀ k, a + k ≤ m.dur.length → Calm m (wrs m a k) k ∧ (wrs m a k).wait = m.wait ++ (List.range k).map (fun i => (a + i, []))
  | 0, _ => ⟨⟨hd, hf, rfl, rfl⟩, by simp [wrs]⟩
  | k + 1, h => by
    obtain ⟨h1, h2⟩ := wrs_calm hd hf k (by omega)
    have h3 := (write_calm (m := wrs m a k) (i := a + k) (l := []) h1.dead h1.fuel (by rw [h1.dur]; omega) (by simp)).2
    refine ⟨⟨?_, ?_, ?_, ?_⟩, ?_⟩
    all_goals unfold wrs; rw [h3]
    · exact h1.dead
    · exact h1.fuel
    · exact h1.dur
    · dsimp only
      rw [List.length_append, h1.wait]
      rfl
    · dsimp only
      rw [h2, List.range_succ, List.map_append, List.append_assoc]
      rfl
theorem erased_calm {b : Nat} (hd : m.dead = false) (hf : m.fuel = -1) (hb : a ≤ b) (h : b ≤ m.dur.length) : (wrs m a (b - a)).flushErr = 0 ∧ (erased m a b).dead = false ∧ (erased m a b).fuel = -1 ∧ (erased m a b).wait = [] ∧ (erased m a b).dur = apply (m.wait ++ (List.range (b - a)).map (fun i => (a + i, []))) m.dur := by
  obtain ⟨h1, h2⟩ := wrs_calm (a := a) hd hf (b - a) (by omega)
  have hbn : (wrs m a (b - a)).burn = wrs m a (b - a) := by simp [DM.burn, h1.fuel]
  refine ⟨by simp [DM.flushErr, h1.dead, h1.fuel], ?_⟩
  have e : erased m a b = { wrs m a (b - a) with dur := (wrs m a (b - a)).seen, wait := [] } := by
    unfold erased DM.flush
    rw [if_neg (by rw [h1.dead]; simp), if_neg (by rw [h1.fuel]; decide), hbn]
  rw [e]
  refine ⟨h1.dead, h1.fuel, rfl, ?_⟩
  show apply _ _ = _
  rw [h2, h1.dur]
theorem apply_none : ∀ (w : List (Nat × List Nat)) (M : Nat), (∀ p ∈ w, p.2 = []) → apply w (List.replicate M []) = List.replicate M []
  | [], _, _ => rfl
  | p :: r, M, h => by
    have : (List.replicate M ([] : List Nat)).set p.1 p.2 = List.replicate M [] := by
      rw [h p (by simp)]
      simp
    show apply r ((List.replicate M ([] : List Nat)).set p.1 p.2) = _
    rw [this]
    exact apply_none r M (fun q hq => h q (by simp [hq]))
theorem erased_fresh {M b : Nat} (hb : a ≤ b) (h : b ≤ M) : erased (fresh M) a b = fresh M := by
  obtain ⟨_, h1, h2, h3, h4⟩ := erased_calm (m := fresh M) (a := a) (b := b) rfl rfl hb (by simpa [fresh] using h)
  have h5 : (erased (fresh M) a b).dur = List.replicate M [] := by
    rw [h4]
    refine apply_none _ M (fun p hp => ?_)
    have hp : p ∈ (List.range (b - a)).map (fun i => (a + i, ([] : List Nat))) := by simpa [fresh] using hp
    obtain ⟨i, _, rfl⟩ := List.mem_map.1 hp
    rfl
  generalize erased (fresh M) a b = x at *
  cases x
  simp only at h1 h2 h3 h5
  subst h1 h2 h3 h5
  rfl
end
end Dsk

set_option maxRecDepth 100000 in
set_option maxHeartbeats 800000 in
theorem erase_any (w : World) (d : Nat) (F : List Nat) (m : Dsk.DM) (a b : Nat) (h : DiskAt w d F m) (hd : m.dead = false) (hf : m.fuel = -1) (hab : a ≤ b) (hb : b ≤ m.dur.length) (hw : m.wait.length ≤ 5700000000000) :
    Calls Tryz.prog 37 #[.pointer (some ⟨d, 0, none⟩), .int .i64 (a : Int), .int .i64 (b : Int)] w fun e w' => e = .returned (.int .i64 0) ∧ Turned w d F w' (Dsk.erased m a b) := by
  have hmost := h.good.most
  have HH := Lib.hid h
  have FE := Lib.hid (Dsk.erased_calm hd hf hab hb).1
  have WR := Lib.hid (fun k (hk : a + k ≤ m.dur.length) => (Dsk.wrs_calm (m := m) (a := a) hd hf k hk).1)
  have HM : Hid (m.wait.length ≤ 5700000000000 ∧ b ≤ m.dur.length ∧ m.dur.length ≤ 4096) := ⟨hw, hb, hmost⟩
  have hb4 : (b : Int) ≤ 4096 := by omega
  clear h hd hf hw hb hmost
  go_enter Tryz.func37, Tryz.ntmps37
  go_wp2_with fail
  go_loopw [7] (fun iv wr => ∃ i F', a ≤ i ∧ i ≤ b ∧ iv = .int .i64 (i : Nat) ∧ DiskAt wr d F' (Dsk.wrs m a (i - a)) ∧ Only F w wr ∧ ∀ x ∈ F', x ∈ F ∨ w.heap.size ≤ x) (fun iv _ => b - (intOf iv).toNat)
  case atStart => exact ⟨a, F, Nat.le_refl _, hab, rfl, by rw [Nat.sub_self]; exact HH.out, Only.refl _ _, fun _ hx => .inl hx⟩
  case round =>
    obtain ⟨i, F', hai, hib, rfl, hD, hO, hG⟩ := hrel
    have DD := Lib.hid hD
    have OO : Hid (Only F w wr ∧ ∀ x ∈ F', x ∈ F ∨ w.heap.size ≤ x) := ⟨hO, hG⟩
    have HI : Hid (a ≤ i) := hai
    clear hD hO hG
    have CK := WR.out (i - a) (by have := HM.out; omega)
    by_cases hlt : i < b
    · have hlt' : (i : Int) < (b : Int) := by omega
      have WA := write_any wr d F' _ (i : Int) none 0 0 [] DD.out (bts_nil wr) (by omega) (fun h0 => by omega) (by rw [CK.wait]; have := HM.out; omega)
      have hwe := (Dsk.write_calm (m := Dsk.wrs m a (i - a)) (i := i) (l := []) CK.dead CK.fuel (by rw [CK.dur]; have := HM.out; omega) (by simp)).1
      rw [show (0 : Nat) = ([] : List Nat).length from rfl, hwe] at WA
      have WA := Lib.hid WA
      clear CK hwe
      go_wp2_with fail
      refine WA.out.mono ?_
      rintro e w2 ⟨rfl, F2, hD2, hO2, hG2⟩
      have R2 : Hid (DiskAt w2 d F2 (Dsk.wrs m a (i + 1 - a)) ∧ Only F w w2 ∧ ∀ x ∈ F2, x ∈ F ∨ w.heap.size ≤ x) := by
        refine ⟨?_, OO.out.1.trans hO2 OO.out.2, fun x hx => ?_⟩
        · rw [show i + 1 - a = (i - a) + 1 by omega]
          show DiskAt w2 d F2 ((Dsk.wrs m a (i - a)).write ((a + (i - a) : Nat) : Int) [])
          rw [show a + (i - a) = i by omega]
          exact hD2
        · rcases hG2 x hx with h1 | h1
          · exact OO.out.2 x h1
          · exact .inr (Nat.le_trans OO.out.1.size h1)
      clear hD2 hO2 hG2 WA DD OO
      go_wp2_with fail
      go_roundw
      case rel => exact ⟨i + 1, F2, by omega, by omega, by go_num, R2.out.1, R2.out.2.1, R2.out.2.2⟩
      case measure => simp [intOf]; omega
    · obtain rfl : i = b := by omega
      have FA := flush_any wr d F' _ DD.out (by rw [CK.wait]; have := HM.out; omega)
      rw [FE.out] at FA
      have FA := Lib.hid FA
      clear CK
      go_wp2_with fail
      refine FA.out.mono ?_
      rintro e w2 ⟨rfl, F2, hD2, hO2, hG2⟩
      have R2 : Hid (Turned w d F w2 (Dsk.erased m a i)) := ⟨F2, hD2, OO.out.1.trans hO2 OO.out.2, fun x hx => by
        rcases hG2 x hx with h1 | h1
        · exact OO.out.2 x h1
        · exact .inr (Nat.le_trans OO.out.1.size h1)⟩
      clear hD2 hO2 hG2 FA
      go_wp2_with fail
      go_ret
      exact ⟨rfl, R2.out⟩
end Go.Proofs.YtkajneeihhobhaaGreat

namespace Go.Proofs.YtkajneeihhobhaaGreat
open Go.RowKit Go.Maps Wal

/-- A call, and what it leaves of a disk. -/
theorem pcheck_any (w : World) (d : Nat) (F : List Nat) (m : Dsk.DM) (log : Nat) (h : DiskAt w d F m) (h2 : 2 ≤ log) (hl : log < m.dur.length) :
    Calls Tryz.prog 36 #[.pointer (some ⟨d, 0, none⟩), .int .i64 (log : Int)] w fun e w' => e = .returned (.int .i64 0) ∧ w = w' := by
  have S := Lib.hid (size_any w d F m h)
  have k1 : (2 : Int) ≤ (log : Int) := by omega
  have k2 : (log : Int) < (m.dur.length : Int) := by omega
  clear h
  go_enter Tryz.func36, Tryz.ntmps36
  go_wp2_with fail
  refine S.out.mono ?_
  rintro e w' ⟨rfl, rfl⟩
  go_wp2_with fail
  go_ret
  exact ⟨rfl, rfl⟩
theorem newPager_any (w : World) (d lb : Nat) (log : Nat) :
    Calls Tryz.prog 39 #[.pointer (some ⟨d, 0, none⟩), .pointer (some ⟨lb, 0, none⟩), .int .i64 (log : Int)] w fun e w' => e = .returned (.pointer (some ⟨w.heap.size + 1, 0, none⟩)) ∧
      w' = (w.alloc (.map #[] 0)).alloc (.cells #[.pointer (some ⟨d, 0, none⟩), .pointer (some ⟨lb, 0, none⟩), .int .i64 (log : Int), .map (some w.heap.size), .pointer none, .bool false] 89) := by
  have hmm := @run_makeMap Tryz.prog
  go_enter Tryz.func39, Tryz.ntmps39
  go_wp2_with fail
  go_ret
  exact ⟨rfl, rfl⟩
/-- A pager that was made on a fresh disk of M sectors, with a log of so many. -/
structure MadePag (w : World) (d : Nat) (F : List Nat) (M log : Nat) (P : PS) (w' : World) : Prop where
  pag : PagAt w' P (.pointer none)
  d_ : P.d = d
  reg : P.reg = log
  n : P.N = M - log
  alive : P.dead = false
  none_ : P.f = fun _ => none
  s_ : P.s = (makeO (Dsk.fresh M) 0 log).2.1
  m_ : P.m = (makeO (Dsk.fresh M) 0 log).2.2
  only : Only F w w'
  new : ∀ x, (x = P.p ∨ x = P.am ∨ x ∈ P.G) → w.heap.size ≤ x
  foot : ∀ x ∈ P.F, x ∈ F ∨ w.heap.size ≤ x
theorem makeO_fresh (M log : Nat) (hM : 2 ≤ log ∧ log < M) : (makeO (Dsk.fresh M) 0 log).1 = 0 ∧ (makeO (Dsk.fresh M) 0 log).2.2.dead = false ∧ (makeO (Dsk.fresh M) 0 log).2.2.fuel = -1 ∧ (makeO (Dsk.fresh M) 0 log).2.2.wait = [] ∧
    (makeO (Dsk.fresh M) 0 log).2.2.dur = (List.replicate M []).set 0 (told 0 (log - 1) 0 1 0) := by
  have hlen : (Dsk.fresh M).dur.length = M := by simp [Dsk.fresh]
  obtain ⟨h1, h2⟩ := Dsk.write_calm (m := Dsk.fresh M) (i := 0) (l := told 0 (log - 1) 0 1 0) rfl rfl (by rw [hlen]; omega) (by rw [told_length]; omega)
  obtain ⟨m1, hm1⟩ : ∃ m1 : Dsk.DM, m1 = ⟨List.replicate M [], [(0, told 0 (log - 1) 0 1 0)], -1, false⟩ := ⟨_, rfl⟩
  have h2' : (Dsk.fresh M).write ((0 : Nat) : Int) (told 0 (log - 1) 0 1 0) = m1 := by rw [h2, hm1]; rfl
  have h3 : m1.flushErr = 0 := by rw [hm1]; rfl
  have h4 : m1.flush = ⟨(List.replicate M []).set 0 (told 0 (log - 1) 0 1 0), [], -1, false⟩ := by rw [hm1]; rfl
  have e : ∃ s, makeO (Dsk.fresh M) 0 log = (0, s, m1.flush) := by
    unfold makeO tellO wrO flO
    dsimp only [LS.fresh]
    rw [h1, h2']
    simp only [ne_eq, not_true_eq_false, if_false, h3]
    exact ⟨_, rfl⟩
  obtain ⟨s, e⟩ := e
  rw [e, h4]
  exact ⟨rfl, rfl, rfl, rfl, rfl⟩
set_option maxRecDepth 100000 in
set_option maxHeartbeats 1600000 in
theorem pmake_fresh (w : World) (d : Nat) (F : List Nat) (M log : Nat) (h : DiskAt w d F (Dsk.fresh M)) (h2 : 2 ≤ log) (hl : log < M) :
    Calls Tryz.prog 12 #[.pointer (some ⟨d, 0, none⟩), .int .i64 (log : Int)] w fun e w' => ∃ P, e = .returned (.tuple #[.pointer (some ⟨P.p, 0, none⟩), .int .i64 0]) ∧ MadePag w d F M log P w' := by
  have hlen : (Dsk.fresh M).dur.length = M := by simp [Dsk.fresh]
  have hmost := h.good.most
  rw [hlen] at hmost
  have HH := Lib.hid h
  have CK := Lib.hid (pcheck_any w d F _ log h h2 (by rw [hlen]; exact hl))
  have E1 := erase_any w d F _ 0 1 h rfl rfl (by omega) (by rw [hlen]; omega) (by simp [Dsk.fresh])
  rw [Dsk.erased_fresh (by omega) (by omega)] at E1
  have E1 := Lib.hid E1
  have HL : Hid (2 ≤ log ∧ log < M) := ⟨h2, hl⟩
  have HN := Lib.hid hlen
  clear h h2 hl hlen
  go_enter Tryz.func12, Tryz.ntmps12
  go_wp2_with fail
  refine CK.out.mono ?_
  rintro e w' ⟨rfl, rfl⟩
  go_wp2_with fail
  refine E1.out.mono ?_
  rintro e w1 ⟨rfl, F1, hD1, hO1, hG1⟩
  have D1 := Lib.hid hD1
  have O1 : Hid (Only F w w1 ∧ ∀ x ∈ F1, x ∈ F ∨ w.heap.size ≤ x) := ⟨hO1, hG1⟩
  have S1 := size_any w1 d F1 _ D1.out
  rw [HN.out] at S1
  have S1 := Lib.hid S1
  have E2 := erase_any w1 d F1 _ log M D1.out rfl rfl (by have := HL.out; omega) (by rw [HN.out]; exact Nat.le_refl _) (by simp [Dsk.fresh])
  rw [Dsk.erased_fresh (by have := HL.out; omega) (Nat.le_refl _)] at E2
  have E2 := Lib.hid E2
  clear hD1 hO1 hG1 E1 CK HH
  go_wp2_with fail
  refine S1.out.mono ?_
  rintro e w' ⟨rfl, rfl⟩
  go_wp2_with fail
  refine E2.out.mono ?_
  rintro e w2 ⟨rfl, F2, hD2, hO2, hG2⟩
  have D2 := Lib.hid hD2
  have O2 : Hid (Only F w w2 ∧ ∀ x ∈ F2, x ∈ F ∨ w.heap.size ≤ x) := ⟨O1.out.1.trans hO2 O1.out.2, fun x hx => by
    rcases hG2 x hx with h1 | h1
    · exact O1.out.2 x h1
    · exact .inr (Nat.le_trans O1.out.1.size h1)⟩
  obtain ⟨o1, o2, o3, o4, o5⟩ := makeO_fresh M log HL.out
  have MO : Hid ((makeO (Dsk.fresh M) 0 log).1 = 0 ∧ (makeO (Dsk.fresh M) 0 log).2.2.dur.length = M) := ⟨o1, by rw [o5]; simp⟩
  have MK := Lib.hid (make_any w2 d F2 (Dsk.fresh M) 0 log D2.out (by
    rw [HN.out]
    have := HL.out
    unfold checkErr
    rw [if_neg (by omega)]) (by simp [Dsk.fresh]))
  clear hD2 hO2 hG2 E2 S1 D1 O1 o1 o2 o3 o4 o5
  go_wp2_with fail
  refine MK.out.mono ?_
  rintro e w3 ⟨hok, _⟩
  obtain ⟨lb, G, F3, rfl, hL, hO, hG, hF⟩ := hok MO.out.1
  have L3 := Lib.hid hL
  have O3 : Hid (Only F w w3 ∧ (∀ x ∈ G, w.heap.size ≤ x) ∧ ∀ x ∈ F3, x ∈ F ∨ w.heap.size ≤ x) := ⟨O2.out.1.trans hO O2.out.2, fun x hx => Nat.le_trans O2.out.1.size (hG x hx), fun x hx => by
    rcases hF x hx with h1 | h1
    · exact O2.out.2 x h1
    · exact .inr (Nat.le_trans O2.out.1.size h1)⟩
  have NP := Lib.hid (newPager_any w3 d lb log)
  clear hok hL hO hG hF MK D2 O2
  go_wp2_with fail
  refine NP.out.mono ?_
  rintro e w4 ⟨rfl, hw4⟩
  have RES : Hid (MadePag w d F M log ⟨w3.heap.size + 1, d, lb, w3.heap.size, G, F3, (makeO (Dsk.fresh M) 0 log).2.1, (makeO (Dsk.fresh M) 0 log).2.2, log, M - log, false, fun _ => none⟩ w4) := by
    have hb : Below w3.heap.size w3 w4 := by rw [hw4]; exact ((Below.refl _ _).alloc (Nat.le_refl _) _).alloc (by simp) _
    have hs := O3.out.1.size
    have hlt : ∀ x ∈ G ++ F3, x < w3.heap.size := fun x hx => by
      rcases List.mem_append.1 hx with hx | hx
      · exact L3.out.glt x hx
      · exact L3.out.flt x hx
    refine ⟨⟨?_, L3.out.under hb, ?_, Nat.succ_ne_self _, fun hx => absurd (hlt _ hx) (Nat.not_lt.2 (Nat.le_succ _)), fun hx => absurd (hlt _ hx) (Nat.lt_irrefl _), ?_⟩, rfl, rfl, rfl, rfl, rfl, rfl, rfl, O3.out.1.under hb, fun x hx => ?_, O3.out.2.2⟩
    · rw [hw4]; exact Held.new _ _ _ (by simp)
    · rw [hw4]; exact (MapAt.made w3 rfl _).only ((Only.refl [] _).alloc _) (by simp)
    · show _ = log + (M - log)
      rw [MO.out.2]
      have := HL.out
      omega
    · rcases hx with rfl | rfl | hx
      · exact Nat.le_succ_of_le hs
      · exact hs
      · exact O3.out.2.1 x hx
  clear hw4
  go_wp2_with fail
  go_ret2
  exact ⟨_, rfl, RES.out⟩
end Go.Proofs.YtkajneeihhobhaaGreat
