/-
  pager: the contracts of a transaction's Read and Write, of Begin.
-/
import Derived.Test.YtaoldopkehbhkaaPg3
namespace Go.Proofs.Ytaoldopkehbhkaa
open Go.RowKit Go.Maps Wal

/-- What a transaction reads at a block. -/
def PS.got (P : PS) (g : Nat → Option (List Nat)) (b : Nat) : List Nat := (g b).getD (P.at_ b)
theorem PS.at_blk {w : World} {P : PS} {tx : Value} (h : PagAt w P tx) (b : Nat) : Blk (P.at_ b) := by
  unfold PS.at_
  cases hf : P.f b with
  | some l => exact (h.away.blk hf).2
  | none =>
    refine Blk.sec ?_
    exact h.log.disk.good.seen_bytes.getD _
theorem PS.got_blk {w : World} {P : PS} {tx : Value} {t tm : Nat} {g : Nat → Option (List Nat)} (h : PagAt w P tx) (k : TxAt w P t tm g) (b : Nat) : Blk (P.got g b) := by
  unfold PS.got
  cases hf : g b with
  | some l => exact (k.dirty.blk hf).2
  | none => exact PS.at_blk h b
/-- A transaction was called, and its pager lives: the pager's mark was stored. -/
theorem woken {w : World} {P : PS} {t tm : Nat} {g : Nat → Option (List Nat)} (h : PagAt w P (.pointer (some ⟨t, 0, none⟩))) (k : TxAt w P t tm g) (hd : P.dead = false) (q : Nat) :
    PagAt ((w.setCell ⟨P.p, 5, none⟩ (.bool false)).drewN q) P (.pointer (some ⟨t, 0, none⟩)) ∧ TxAt ((w.setCell ⟨P.p, 5, none⟩ (.bool false)).drewN q) P t tm g ∧ Only [P.p] w ((w.setCell ⟨P.p, 5, none⟩ (.bool false)).drewN q) := by
  have hP : { P with dead := false } = P := by rw [← hd]
  have h1 := h.setDead false
  have k1 := k.beside false
  rw [hP] at h1 k1
  exact ⟨h1.drewN q, k1.drewN q, ((Only.refl _ w).setCell (.inl (by simp)) _).drewN q⟩

set_option maxRecDepth 100000 in
set_option maxHeartbeats 1600000 in
theorem tread_any (w : World) (P : PS) (t tm : Nat) (g : Nat → Option (List Nat)) (b : Nat) (h : PagAt w P (.pointer (some ⟨t, 0, none⟩))) (k : TxAt w P t tm g) (hb : b < P.N) (hd : P.dead = false) (hm : P.m.dead = false) :
    Calls Try.prog 15 #[.pointer (some ⟨t, 0, none⟩), .int .i64 (b : Int)] w fun e w' => Told512 w P (.pointer (some ⟨t, 0, none⟩)) (P.got g b) e w' ∧ TxAt w' P t tm g := by
  have hmost := h.most
  have TA := Lib.hid (talive_any w P t tm g h k)
  rw [hd, hm] at TA
  have HP : Hid ({ P with dead := false } = P) := by show _ = _; rw [← hd]
  have WK := Lib.hid (woken h k hd)
  have HB : Hid (b < P.N ∧ P.dead = false ∧ P.m.dead = false) := ⟨hb, hd, hm⟩
  obtain ⟨hz, hi⟩ := zero_of_info zeroBlk
  unfold blkV at hz
  have tlt := k.held.lt
  have k2 : (b : Int) ≤ 4096 := by omega
  clear h k hb hd hm hi
  go_enter Try.func15, Try.ntmps15
  go_wp2_with fail
  refine TA.out.mono ?_
  rintro e w1 ⟨rfl, rfl⟩
  obtain ⟨h1, k1, o1⟩ := WK.out 0
  rw [show (w.setCell ⟨P.p, 5, none⟩ (.bool false)).drewN 0 = w.setCell ⟨P.p, 5, none⟩ (.bool false) from rfl] at h1 k1 o1
  have PH := Lib.hid (phas_any _ P _ (b : Int) h1)
  rw [decide_eq_true (show 0 ≤ (b : Int) ∧ (b : Int) < (P.N : Int) by have := HB.out.1; omega)] at PH
  have t0 : (w.setCell ⟨P.p, 5, none⟩ (.bool false)).cell? ⟨t, 0, none⟩ = some (.pointer (some ⟨P.p, 0, none⟩)) := k1.held.cell 0
  clear TA h1 k1 o1
  have ed : deadErr (false || false) = 0 := rfl
  rw [show (false || false) = false from rfl] at ed ⊢
  rw [ed]
  generalize w.setCell ⟨P.p, 5, none⟩ (.bool false) = w1 at *
  go_wp2_with fail
  refine PH.out.mono ?_
  rintro e w2 ⟨rfl, q, hw2⟩
  obtain ⟨h2, k2', o2⟩ := WK.out q
  rw [← hw2] at h2 k2' o2
  have H2 := Lib.hid h2
  have K2 := Lib.hid k2'
  have O2 := Lib.hid o2
  have t0 : w2.cell? ⟨t, 0, none⟩ = some (.pointer (some ⟨P.p, 0, none⟩)) := k2'.held.cell 0
  have t1 : w2.cell? ⟨t, 1, none⟩ = some (.map (some tm)) := k2'.held.cell 1
  have lk := k2'.dirty.look b (by omega)
  clear h2 k2' o2 PH WK hw2
  cases hg : g b with
  | some l =>
    rw [hg] at lk
    have hl : Blk l := (K2.out.dirty.blk hg).2
    have hs := store_blk w2 l hl
    have hlen := hl.len
    have ea : P.got g b = l := by unfold PS.got; rw [hg]; rfl
    simp only [Option.getD_some, Option.isSome_some] at lk
    unfold blkV at lk
    have EA := Lib.hid ea
    clear ea hg hl
    go_wp2_with fail
    go_ret2
    rw [EA.out]
    exact ⟨⟨⟨_, _, rfl, O2.out.size, Held.new _ _ _ rfl⟩, by rw [HP.out]; exact H2.out.alloc _, O2.out.alloc _⟩, K2.out.alloc _⟩
  | none =>
    rw [hg] at lk
    have hs := store_blk w2 (sec []) Blk.zero
    have hlen := sec_length []
    have ea : P.got g b = P.at_ b := by unfold PS.got; rw [hg]; rfl
    simp only [Option.getD_none, Option.isSome_none] at lk
    unfold blkV at lk
    have EA := Lib.hid ea
    clear ea hg
    go_upto_region 9 with fail
    obtain ⟨w3, hw3⟩ : ∃ w3, w3 = w2.alloc (.cells ((sec []).map u8v).toArray 74) := ⟨_, rfl⟩
    have BW : Hid (Below w2.heap.size w2 w3) := by rw [hw3]; exact (Below.refl _ _).alloc (Nat.le_refl _) _
    have H3 := Lib.hid (H2.out.under BW.out)
    have K3 := Lib.hid (K2.out.under BW.out)
    rw [← hw3]
    have s0 : w3.cell? ⟨t, 0, none⟩ = some (.pointer (some ⟨P.p, 0, none⟩)) := K3.out.held.cell 0
    have PR := Lib.hid (pread_any w3 P _ b H3.out HB.out.1 HB.out.2.1 HB.out.2.2)
    clear hw3 t0 t1 lk hs hlen hz
    go_wp2_with fail
    refine PR.out.mono ?_
    rintro e w4 ⟨⟨q4, T4, rfl, hq4, hh4⟩, hp4, ho4⟩
    have S4 : Hid (Only [P.p] w w4) := (O2.out.trans (Only.of_below (F := []) BW.out) (fun _ hx => by cases hx)).trans ho4 (fun x hx => .inl hx)
    have K4 := Lib.hid (K3.out.only ho4 (by simpa using K3.out.ne.1) (by simpa using K3.out.ne.2.2.2.1))
    have Q4 : Hid (w.heap.size ≤ q4 ∧ Held w4 q4 T4 ((P.at_ b).map u8v).toArray) := ⟨Nat.le_trans (Nat.le_trans O2.out.size BW.out.size) hq4, hh4⟩
    have P4 := Lib.hid hp4
    clear hp4 ho4 hq4 hh4 PR
    go_wp2_with fail
    go_ret2
    rw [EA.out]
    exact ⟨⟨⟨q4, T4, rfl, Q4.out.1, Q4.out.2⟩, P4.out, S4.out⟩, K4.out⟩

set_option maxRecDepth 100000 in
theorem sec_of (l : List Nat) (n : Nat) (h : l.length = n) (hn : n ≤ 512) : l ++ (sec []).drop n = sec l := by
  rw [sec_short (l := l) (by omega), sec_short (l := []) (Nat.zero_le _), List.nil_append, List.drop_replicate, h]
  rfl
theorem load_held {w : World} {q : Nat} {T : TypeId} {l : List Nat} (h : Held w q T (l.map u8v).toArray) (hl : Blk l) : (loadCellsFrom ⟨q, 0, none⟩ 0 512 #[]).run Try.prog w = .ok (l.map u8v).toArray w := by
  have := run_loadCells_list (P := Try.prog) w ⟨q, 0, none⟩ (l.map u8v) (fun j v hv => by
    have hadd : (⟨q, 0, none⟩ : Addr).add j = ⟨q, j, none⟩ := by unfold Addr.add; split <;> simp_all
    rw [hadd, h.cell]
    simpa using hv)
  rw [List.length_map, hl.len] at this
  exact this
set_option maxRecDepth 100000 in
theorem copy_blk (w : World) (A : Option Addr) (n c : Nat) (l : List Nat) (ty : TypeId) (hb : Bts w A n l) (hn : n ≤ 512) :
    (Builtin.copy_ #[48, 48] ty #[.slice (some ⟨w.heap.size, 0, none⟩) 512 512, .slice A n c]).run Try.prog (w.alloc (.cells ((sec []).map u8v).toArray 74)) = .ok (goInt n) (w.alloc (.cells ((sec l).map u8v).toArray 74)) := by
  obtain ⟨i, hi, _, hi1, _⟩ := info_parts info5
  have hs : (Try.prog.info? 5).map (·.size) = some 1 := by rw [hi]; simp [hi1]
  rcases Nat.eq_zero_or_pos n with h0 | h0
  · subst h0
    have hl : l = [] := List.eq_nil_of_length_eq_zero hb.1
    subst hl
    exact run_copy_none (P := Try.prog) _ 48 48 ty 5 _ A 512 512 0 c Try.underlying48 hs (by simp)
  · obtain ⟨b, o, rfl, hlt, hc⟩ := hb.2.2 h0
    have hlen : (l.map u8v).length = n := by rw [List.length_map, hb.1]
    have := run_copy_row (P := Try.prog) (w.alloc (.cells ((sec []).map u8v).toArray 74)) 48 48 ty 5 w.heap.size 0 512 512 ⟨b, o, none⟩ n c ((sec []).map u8v).toArray 74 (l.map u8v) Try.underlying48 hs (heap_alloc_last w _)
      (by rw [hlen]; exact (Nat.min_eq_left hn).symm) (fun j v hv => by
        have h1 := hb.at_ rfl j v hv
        have h2 : (w.alloc (.cells ((sec []).map u8v).toArray 74)).cell? ((⟨b, o, none⟩ : Addr).add j) = w.cell? ((⟨b, o, none⟩ : Addr).add j) := World.cell?_alloc_lt _ _ _ (by
          have : ((⟨b, o, none⟩ : Addr).add j).block = b := by unfold Addr.add; split <;> rfl
          rw [this]; exact hlt)
        rw [h2]
        exact h1) (by rw [hlen]; simp [sec_length]; exact hn) (fun v hv => by obtain ⟨x, _, rfl⟩ := List.mem_map.1 hv; rfl)
    rw [hlen, World.setRow_alloc_new] at this
    rw [this]
    have e : (((sec []).map u8v).toArray.toList.take 0 ++ l.map u8v ++ ((sec []).map u8v).toArray.toList.drop (0 + n)) = (sec l).map u8v := by
      rw [List.take_zero, List.nil_append, Nat.zero_add, ← List.map_drop, ← List.map_append, sec_of l n hb.1 hn]
    rw [e]
set_option maxRecDepth 100000 in
set_option maxHeartbeats 1600000 in
theorem twrite_any (w : World) (P : PS) (t tm : Nat) (g : Nat → Option (List Nat)) (b : Nat) (A : Option Addr) (n c : Nat) (l : List Nat) (h : PagAt w P (.pointer (some ⟨t, 0, none⟩))) (k : TxAt w P t tm g) (hb : b < P.N) (hd : P.dead = false) (hm : P.m.dead = false)
    (hl : Bts w A n l) (hn : n ≤ 512) (hA : 0 < n → ∀ x, A = some x → x.block ≠ P.p ∧ x.block ≠ tm) :
    Calls Try.prog 109 #[.pointer (some ⟨t, 0, none⟩), .int .i64 (b : Int), .slice A n c] w fun e w' => e = .returned (.int .i64 0) ∧ PagAt w' P (.pointer (some ⟨t, 0, none⟩)) ∧ TxAt w' P t tm (upd g b (sec l)) ∧ Only [P.p, tm] w w' := by
  have hmost := h.most
  have TA := Lib.hid (talive_any w P t tm g h k)
  rw [hd, hm] at TA
  have WK := Lib.hid (woken h k hd)
  have HB : Hid (b < P.N ∧ P.dead = false ∧ P.m.dead = false) := ⟨hb, hd, hm⟩
  obtain ⟨hz, hi⟩ := zero_of_info zeroBlk
  unfold blkV at hz
  have k2 : (b : Int) ≤ 4096 := by omega
  have k3 : (n : Int) ≤ 512 := by omega
  have BL := Lib.hid hl
  have HA := Lib.hid hA
  clear h k hb hd hm hi hl hA
  go_enter Try.func109, Try.ntmps109
  go_wp2_with fail
  refine TA.out.mono ?_
  rintro e w1 ⟨rfl, rfl⟩
  obtain ⟨h1, k1, o1⟩ := WK.out 0
  rw [show (w.setCell ⟨P.p, 5, none⟩ (.bool false)).drewN 0 = w.setCell ⟨P.p, 5, none⟩ (.bool false) from rfl] at h1 k1 o1
  have PH := Lib.hid (phas_any _ P _ (b : Int) h1)
  rw [decide_eq_true (show 0 ≤ (b : Int) ∧ (b : Int) < (P.N : Int) by have := HB.out.1; omega)] at PH
  have t0 : (w.setCell ⟨P.p, 5, none⟩ (.bool false)).cell? ⟨t, 0, none⟩ = some (.pointer (some ⟨P.p, 0, none⟩)) := k1.held.cell 0
  clear TA h1 k1 o1
  have ed : deadErr (false || false) = 0 := rfl
  rw [show (false || false) = false from rfl] at ed ⊢
  rw [ed]
  generalize w.setCell ⟨P.p, 5, none⟩ (.bool false) = w1 at *
  go_wp2_with fail
  refine PH.out.mono ?_
  rintro e w2 ⟨rfl, q, hw2⟩
  obtain ⟨h2, k2', o2⟩ := WK.out q
  rw [← hw2] at h2 k2' o2
  have H2 := Lib.hid h2
  have K2 := Lib.hid k2'
  have O2 := Lib.hid o2
  have B2 : Hid (Bts w2 A n l) := o2.bts BL.out (fun h0 x hx => by simpa using (HA.out h0 x hx).1)
  clear h2 k2' o2 PH WK hw2 t0
  go_upto_region 7 with fail
  have cp := fun ty => copy_blk w2 A n c l ty B2.out hn
  go_upto_region 8 with fail
  obtain ⟨w3, hw3⟩ : ∃ w3, w3 = w2.alloc (.cells ((sec l).map u8v).toArray 74) := ⟨_, rfl⟩
  obtain ⟨q3, hq3⟩ : ∃ q3, q3 = w2.heap.size := ⟨_, rfl⟩
  have hl : Blk (sec l) := Blk.sec B2.out.2.1
  have HL := Lib.hid hl
  have BW : Hid (Below w2.heap.size w2 w3) := by rw [hw3]; exact (Below.refl _ _).alloc (Nat.le_refl _) _
  have QM : Hid (q3 ≠ tm) := by
    show _ ≠ _
    have := K2.out.dirty.lt
    omega
  have Q3 : Hid (Held w3 q3 74 ((sec l).map u8v).toArray) := by rw [hw3]; exact Held.new _ _ _ hq3
  have H3 := Lib.hid (H2.out.under BW.out)
  have K3 := Lib.hid (K2.out.under BW.out)
  rw [← hw3, ← hq3]
  clear hw3 hq3 cp hz
  have s1 : w3.cell? ⟨t, 1, none⟩ = some (.map (some tm)) := K3.out.held.cell 1
  obtain ⟨w4, hr, hm4, ho4⟩ := (show MapAt w3.drew tm P.N g from K3.out.dirty).store (by omega) HB.out.1 hl
  have M4 := Lib.hid hm4
  have O4 : Hid (Only [tm] w3 w4) := ((Only.refl [tm] w3).drew).trans ho4 (fun x hx => .inl hx)
  have hsz : (Try.prog.info? 74).map (·.size) = some ((sec l).map u8v).length := by rw [List.length_map, sec_length]; exact (zero_of_info zeroBlk).2
  have ld : w3.rangeAt q3 0 ((sec l).map u8v) := fun j v hv => by rw [Nat.zero_add, Q3.out.cell]; simpa using hv
  clear hm4 ho4 hl
  refine wp_region_noPanic ?_
  refine wp_region_held_drew (S := fun w' => w'.cell? ⟨t, 1, none⟩ = some (.map (some tm)) ∧ w'.rangeAt q3 0 ((sec l).map u8v)) (by kernel_rfl) ⟨s1, ld⟩ (fun hHeld => ?_)
  refine take_ (i := 0) (v := ?_) 29 rfl rfl (by kernel_rfl) (by kernel_rfl) (by kernel_rfl) (fun _ _ _ h => h) (Or.inl ⟨by rfl, ?_⟩) (by assumption) ?_
  rotate_left
  · (intro wS hSw; (try dsimp only at hSw); go_simp; try with_reducible rfl)
  simp only [Act.put, List.setIfInBounds_toArray, List.set_cons_zero, List.set_cons_succ]
  refine take_ (i := 1) (v := ?_) 30 rfl rfl (by kernel_rfl) (by kernel_rfl) (by kernel_rfl) (fun _ _ _ h => h) (Or.inl ⟨by rfl, ?_⟩) (by assumption) ?_
  rotate_left
  · (intro wS hSw; (try dsimp only at hSw); go_simp; try with_reducible rfl)
  simp only [Act.put, List.setIfInBounds_toArray, List.set_cons_zero, List.set_cons_succ]
  refine take_ (i := 2) (v := ?_) 31 rfl rfl (by kernel_rfl) (by kernel_rfl) (by kernel_rfl) (fun _ _ _ h => h) (Or.inl ⟨by rfl, ?_⟩) (by assumption) ?_
  rotate_left
  · (intro wS hSw; (try dsimp only at hSw); go_simp; try with_reducible rfl)
  simp only [Act.put, List.setIfInBounds_toArray, List.set_cons_zero, List.set_cons_succ]
  refine take_ (i := 3) (v := ?_) 32 rfl rfl (by kernel_rfl) (by kernel_rfl) (by kernel_rfl) (fun _ _ _ h => h) (Or.inl ⟨by rfl, ?_⟩) (by assumption) ?_
  rotate_left
  · (intro wS hSw; (try dsimp only at hSw); go_simp; try with_reducible rfl)
  simp only [Act.put, List.setIfInBounds_toArray, List.set_cons_zero, List.set_cons_succ]
  refine take_ (i := 4) (v := ?_) 33 rfl rfl (by kernel_rfl) (by kernel_rfl) (by kernel_rfl) (fun _ _ _ h => h) (Or.inl ⟨by rfl, ?_⟩) (by assumption) ?_
  rotate_left
  · (intro wS hSw; (try dsimp only at hSw); go_simp; try with_reducible rfl)
  simp only [Act.put, List.setIfInBounds_toArray, List.set_cons_zero, List.set_cons_succ]
  refine take_ (i := 5) (v := blkV (sec l)) 34 rfl rfl (by kernel_rfl) (by kernel_rfl) (by kernel_rfl) (fun _ _ _ h => h) (yieldsIf_load_mid (by rfl) _ _ rfl q3 0 rfl _ _ (fun w h => h.2) Try.underlying74 rfl hsz) (by assumption) ?_
  simp only [Act.put, List.setIfInBounds_toArray, List.set_cons_zero, List.set_cons_succ]
  refine one_ (i := 6) _ (by kernel_rfl) rfl (fun K hK => ?_)
  go_simp
  have c1' : w4.cell? ⟨t, 1, none⟩ = some (.map (some tm)) := (O4.out.cell (p := ⟨t, 1, none⟩) K3.out.held.lt (by simpa using K3.out.ne.2.2.1)).trans s1
  have ld' : w4.rangeAt q3 0 ((sec l).map u8v) := fun j v hv => (O4.out.cell (p := ⟨q3, 0 + j, none⟩) Q3.out.lt (by simpa using QM.out)).trans (ld j v hv)
  have S4 : Hid (Only [P.p, tm] w w4) := ((O2.out.mono (fun x hx => .inl (by simpa using Or.inl (by simpa using hx)))).trans (Only.of_below (F := []) BW.out) (fun _ hx => by cases hx)).trans O4.out (fun x hx => .inl (by simpa using Or.inr (by simpa using hx)))
  have P4 := Lib.hid (H3.out.only O4.out (by simpa using K3.out.ne.2.2.2.1.symm) (by simpa using K3.out.ne.2.2.2.2.symm) (fun x hx => by
    have := K3.out.mfar
    simp only [List.mem_singleton]
    rintro rfl
    exact this hx))
  have K4 : Hid (TxAt w4 P t tm (upd g b (sec l))) := ⟨K3.out.held.only O4.out (by simpa using K3.out.ne.2.2.1), M4.out, K3.out.ne, K3.out.tfar, K3.out.mfar⟩
  clear hr s1 ld hHeld
  refine hK.out _ _ ⟨c1', ld'⟩ (fun hHeld => ?_)
  clear hK K
  refine wpAnyH_done (by kernel_rfl) ?_ _
  refine NoPanic.normal ?_
  go_wp2_with fail
  go_ret
  exact ⟨rfl, P4.out, K4.out, S4.out⟩
end Go.Proofs.Ytaoldopkehbhkaa
