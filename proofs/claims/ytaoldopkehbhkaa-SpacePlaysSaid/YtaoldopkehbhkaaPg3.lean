/-
  pager: the contracts of has, heed, read, and of a transaction's Read and Write.
-/
import Derived.Test.YtaoldopkehbhkaaPg2
import Derived.Test.YtaoldopkehbhkaaReg
import Derived.Deep.CutRange
import Derived.Deep.DeepCutAuto
namespace Go.Proofs.Ytaoldopkehbhkaa
open Go.RowKit Go.Maps Wal

set_option maxRecDepth 100000 in
theorem phas_any (w : World) (P : PS) (tx : Value) (b : Int) (h : PagAt w P tx) :
    Calls Try.prog 31 #[.pointer (some ⟨P.p, 0, none⟩), .int .i64 b] w fun e w' => e = .returned (.bool (decide (0 ≤ b ∧ b < (P.N : Int)))) ∧ ∃ q, w' = w.drewN q := by
  have B := Lib.hid (blocks_any w P tx h)
  clear h
  by_cases h0 : 0 ≤ b
  · go_enter Try.func31, Try.ntmps31
    go_wp2_with fail
    refine B.out.mono ?_
    rintro e w' ⟨rfl, q, rfl⟩
    by_cases h1 : b < (P.N : Int)
    · have e1 : decide (0 ≤ b ∧ b < (P.N : Int)) = true := decide_eq_true ⟨h0, h1⟩
      go_wp2_with fail
      go_ret
      exact ⟨by rw [e1]; rfl, q, rfl⟩
    · have e1 : decide (0 ≤ b ∧ b < (P.N : Int)) = false := decide_eq_false (fun h => h1 h.2)
      go_wp2_with fail
      go_ret
      exact ⟨by show Ending.returned (.bool (decide (b < (P.N : Int)))) = _; rw [e1, decide_eq_false (show ¬ b < (P.N : Int) by omega)], q, rfl⟩
  · have e1 : decide (0 ≤ b ∧ b < (P.N : Int)) = false := decide_eq_false (fun h => h0 h.1)
    have h0' : ¬ b ≥ 0 := h0
    go_enter Try.func31, Try.ntmps31
    go_wp2_with fail
    go_ret
    exact ⟨rfl, 0, rfl⟩
set_option maxRecDepth 100000 in
theorem heed_any (w : World) (P : PS) (tx : Value) (z : Int) (h : PagAt w P tx) :
    Calls Try.prog 46 #[.pointer (some ⟨P.p, 0, none⟩), .int .i64 z] w fun e w' => e = .returned (.int .i64 z) ∧ w' = w.setCell ⟨P.p, 5, none⟩ (.bool (P.dead || decide (z = 10))) := by
  have c5 : w.cell? ⟨P.p, 5, none⟩ = some (.bool P.dead) := h.held.cell 5
  have z5 := h.held.frozen 5
  clear h
  cases hd : P.dead with
  | true =>
    rw [hd] at c5
    go_enter Try.func46, Try.ntmps46
    go_wp2_with fail
    go_ret
    exact ⟨rfl, rfl⟩
  | false =>
    rw [hd] at c5
    by_cases hz : z = 10
    · subst hz
      go_enter Try.func46, Try.ntmps46
      go_wp2_with fail
      go_ret
      exact ⟨rfl, rfl⟩
    · have e1 : decide (z = 10) = false := decide_eq_false hz
      rw [e1]
      have e2 : (z == 10) = false := by simpa using hz
      go_enter Try.func46, Try.ntmps46
      go_wp2_with fail
      go_ret
      exact ⟨rfl, rfl⟩

/-- What a block was last committed as. -/
def PS.at_ (P : PS) (b : Nat) : List Nat := (P.f b).getD (sec (P.m.seen.getD (P.reg + b) []))
/-- What a call that reads a block leaves: 512 fresh bytes; of the pager its mark alone has turned. -/
structure Told512 (w : World) (P : PS) (tx : Value) (l : List Nat) (e : Ending) (w' : World) : Prop where
  told : ∃ q T, e = .returned (.tuple #[.slice (some ⟨q, 0, none⟩) 512 512, .int .i64 0]) ∧ w.heap.size ≤ q ∧ Held w' q T (l.map u8v).toArray
  pag : PagAt w' { P with dead := false } tx
  only : Only [P.p] w w'

theorem store_blk (w : World) (l : List Nat) (hl : Blk l) : (storeCells ⟨w.heap.size, 0, none⟩ (l.map u8v) 0).run Try.prog (w.alloc (.cells ((sec []).map u8v).toArray 74)) =
    .ok () (w.alloc (.cells (l.map u8v).toArray 74)) := by
  obtain ⟨_, hi⟩ := zero_of_info zeroBlk
  have := run_storeCells_new (P := Try.prog) w 74 ((sec []).map u8v).toArray (l.map u8v).toArray (by rw [hi]; simp [hl.len]) (by simp [sec_length, hl.len]) (by simp [u8v, Value.oneCell'])
  simpa using this
theorem load_blk (w : World) (l : List Nat) (hl : Blk l) : (loadCellsFrom ⟨w.heap.size, 0, none⟩ 0 512 #[]).run Try.prog (w.alloc (.cells (l.map u8v).toArray 74)) =
    .ok (l.map u8v).toArray (w.alloc (.cells (l.map u8v).toArray 74)) :=
  run_loadCellsFrom_new w _ _ 512 (by simp [hl.len])
theorem Held.bts {w : World} {q : Nat} {T : TypeId} {l : List Nat} (h : Held w q T (l.map u8v).toArray) (hl : Blk l) : Bts w (some ⟨q, 0, none⟩) 512 l := by
  refine ⟨hl.len, hl.bytes, fun _ => ⟨_, 0, rfl, h.lt, fun i hi => ?_⟩⟩
  have := hl.len
  rw [h.cell]
  simp only [Nat.zero_add, List.getElem?_toArray, List.getElem?_map, List.getD_eq_getElem?_getD]
  rw [List.getElem?_eq_getElem (by omega)]
  rfl
theorem Fresh512.held {w w' : World} {l : List Nat} {v : Value} (h : Fresh512 w l v w') (hl : l.length = 512) : ∃ q, v = .slice (some ⟨q, 0, none⟩) 512 512 ∧ w.heap.size ≤ q ∧ Held w' q 5 (l.map u8v).toArray := by
  obtain ⟨hv, ho, _⟩ := h
  rcases ho.1.2 with ⟨h1, _⟩ | ⟨g, cap, cur, h1, hb, hg, hn, hm, hs, ht⟩
  · rw [hv] at h1; cases h1
  · rw [hv] at h1
    injection h1 with e1 e2 e3
    injection e1 with e1
    injection e1 with e1
    subst e1 e3
    refine ⟨_, hv, hb, ?_⟩
    have e : cur = (l.map u8v).toArray := by
      apply Array.toList_inj.1
      rw [← ht, hl, List.take_of_length_le (by rw [Array.length_toList]; omega)]
    rw [← e]
    exact hg
set_option maxRecDepth 100000 in
set_option maxHeartbeats 1600000 in
theorem pread_any (w : World) (P : PS) (tx : Value) (b : Nat) (h : PagAt w P tx) (hb : b < P.N) (hd : P.dead = false) (hm : P.m.dead = false) :
    Calls Try.prog 32 #[.pointer (some ⟨P.p, 0, none⟩), .int .i64 (b : Int)] w (Told512 w P tx (P.at_ b)) := by
  have hmost := h.most
  have c3 : w.cell? ⟨P.p, 3, none⟩ = some (.map (some P.am)) := h.held.cell 3
  have lk := h.away.look b (by omega)
  obtain ⟨hz, hi⟩ := zero_of_info zeroBlk
  have HH := Lib.hid h
  have hP : { P with dead := false } = P := by rw [← hd]
  have HP := Lib.hid hP
  have HB := Lib.hid hb
  clear hi hP
  cases hf : P.f b with
  | some l =>
    rw [hf] at lk
    have hl : Blk l := (h.away.blk hf).2
    have hs := store_blk w l hl
    have HL := Lib.hid hl
    have hlen := hl.len
    have ea : P.at_ b = l := by unfold PS.at_; rw [hf]; rfl
    simp only [Option.getD_some, Option.isSome_some] at lk
    unfold blkV at lk hz
    rw [ea]
    clear hl h ea hf hb
    go_enter Try.func32, Try.ntmps32
    go_wp2_with fail
    go_ret2
    exact ⟨⟨_, _, rfl, Nat.le_refl _, Held.new _ _ _ rfl⟩, by rw [HP.out]; exact HH.out.alloc _, (Only.refl _ w).alloc _⟩
  | none =>
    rw [hf] at lk
    have hs := store_blk w (sec []) Blk.zero
    have hlen := sec_length []
    obtain ⟨D, hD⟩ : ∃ D, D = sec (P.m.seen.getD (P.reg + b) []) := ⟨_, rfl⟩
    have hDl : Hid (D.length = 512) := by show _ = _; rw [hD]; exact sec_length _
    have ea : P.at_ b = D := by rw [hD]; unfold PS.at_; rw [hf]; rfl
    simp only [Option.getD_none, Option.isSome_none] at lk
    unfold blkV at lk hz
    rw [ea]
    have c0 : w.cell? ⟨P.p, 0, none⟩ = some (.pointer (some ⟨P.d, 0, none⟩)) := h.held.cell 0
    have c2 : w.cell? ⟨P.p, 2, none⟩ = some (.int .i64 (P.reg : Int)) := h.held.cell 2
    have hpl := h.lt.1
    have hr : P.m.readErr ((P.reg : Int) + (b : Int)) = 0 := by
      unfold Dsk.DM.readErr
      rw [if_neg (by rw [hm]; simp), if_neg (by have := h.size; omega)]
    have k1 : (P.reg : Int) ≤ 4096 := by omega
    have k2 : (b : Int) ≤ 4096 := by omega
    clear h ea hf hb
    go_enter Try.func32, Try.ntmps32
    go_upto_region 4 with fail
    obtain ⟨w1, hw1⟩ : ∃ w1, w1 = w.alloc (.cells ((sec []).map u8v).toArray 74) := ⟨_, rfl⟩
    have BW : Hid (Below w.heap.size w w1) := by rw [hw1]; exact (Below.refl _ _).alloc (Nat.le_refl _) _
    have K1 := Lib.hid (HH.out.under BW.out)
    rw [← hw1]
    have d0 : w1.cell? ⟨P.p, 0, none⟩ = some (.pointer (some ⟨P.d, 0, none⟩)) := K1.out.held.cell 0
    have d2 : w1.cell? ⟨P.p, 2, none⟩ = some (.int .i64 (P.reg : Int)) := K1.out.held.cell 2
    have RD : Hid (∀ q, Calls Try.prog 45 #[.pointer (some ⟨P.d, 0, none⟩), .int .i64 ((P.reg : Int) + (b : Int))] (w1.drewN q) fun e w' => ∃ v, e = .returned (.tuple #[v, .int .i64 0]) ∧ Fresh512 (w1.drewN q) D v w') := fun q => by
      have h9 := read_any (w1.drewN q) P.d P.F P.m ((P.reg : Int) + (b : Int)) (K1.out.log.disk.drewN q)
      rw [hr, show ((P.reg : Int) + (b : Int)).toNat = P.reg + b by omega] at h9
      exact h9.mono fun _ _ ht => by rw [hD]; exact ht.ok rfl
    have RD1 := RD.out 1
    clear hw1 c0 c2 c3 lk hs hlen hr hz hD
    have wrp : IntKind.i64.wrap ((P.reg : Int) + (b : Int)) = (P.reg : Int) + (b : Int) := by rw [IntKind.wrap_i64]; omega
    refine wp_region_noPanic ?_
    refine wp_region_held_drew (S := fun w' => w'.cell? ⟨P.p, 0, none⟩ = some (.pointer (some ⟨P.d, 0, none⟩)) ∧ w'.cell? ⟨P.p, 2, none⟩ = some (.int .i64 (P.reg : Int))) (by kernel_rfl) ⟨d0, d2⟩ (fun hHeld => ?_)
    refine take_ (i := 0) (v := ?_) 22 rfl rfl (by kernel_rfl) (by kernel_rfl) (by kernel_rfl) (fun _ _ _ h => h) (Or.inl ⟨by rfl, ?_⟩) (by assumption) ?_
    rotate_left
    · (intro wS hSw; (try dsimp only at hSw); go_simp; try with_reducible rfl)
    simp only [Act.put, List.setIfInBounds_toArray, List.set_cons_zero, List.set_cons_succ]
    refine take_ (i := 1) (v := ?_) 23 rfl rfl (by kernel_rfl) (by kernel_rfl) (by kernel_rfl) (fun _ _ _ h => h) (Or.inl ⟨by rfl, ?_⟩) (by assumption) ?_
    rotate_left
    · (intro wS hSw; (try dsimp only at hSw); go_simp; try with_reducible rfl)
    simp only [Act.put, List.setIfInBounds_toArray, List.set_cons_zero, List.set_cons_succ]
    refine take_ (i := 2) (v := ?_) 24 rfl rfl (by kernel_rfl) (by kernel_rfl) (by kernel_rfl) (fun _ _ _ h => h) (Or.inl ⟨by rfl, ?_⟩) (by assumption) ?_
    rotate_left
    · (intro wS hSw; (try dsimp only at hSw); go_simp; try with_reducible rfl)
    simp only [Act.put, List.setIfInBounds_toArray, List.set_cons_zero, List.set_cons_succ]
    refine take_ (i := 3) (v := ?_) 25 rfl rfl (by kernel_rfl) (by kernel_rfl) (by kernel_rfl) (fun _ _ _ h => h) (Or.inl ⟨by rfl, ?_⟩) (by assumption) ?_
    rotate_left
    · (intro wS hSw; (try dsimp only at hSw); go_simp; try with_reducible rfl)
    simp only [Act.put, List.setIfInBounds_toArray, List.set_cons_zero, List.set_cons_succ]
    refine take_ (i := 4) (v := ?_) 26 rfl rfl (by kernel_rfl) (by kernel_rfl) (by kernel_rfl) (fun _ _ _ h => h) (Or.inl ⟨by rfl, ?_⟩) (by assumption) ?_
    rotate_left
    · (intro wS hSw; (try dsimp only at hSw); go_simp; try with_reducible rfl)
    simp only [Act.put, List.setIfInBounds_toArray, List.set_cons_zero, List.set_cons_succ]
    refine take_ (i := 5) (v := ?_) 27 rfl rfl (by kernel_rfl) (by kernel_rfl) (by kernel_rfl) (fun _ _ _ h => h) (Or.inl ⟨by rfl, ?_⟩) (by assumption) ?_
    rotate_left
    · (intro wS hSw; (try dsimp only at hSw); go_simp; try with_reducible rfl)
    simp only [Act.put, List.setIfInBounds_toArray, List.set_cons_zero, List.set_cons_succ]
    refine take_ (i := 6) (v := ?_) 28 rfl rfl (by kernel_rfl) (by kernel_rfl) (by kernel_rfl) (fun _ _ _ h => h) (Or.inl ⟨by rfl, ?_⟩) (by assumption) ?_
    rotate_left
    · (intro wS hSw; (try dsimp only at hSw); go_simp; try with_reducible rfl)
    simp only [Act.put, List.setIfInBounds_toArray, List.set_cons_zero, List.set_cons_succ]
    refine take_ (i := 7) (v := ?_) 29 rfl rfl (by kernel_rfl) (by kernel_rfl) (by kernel_rfl) (fun _ _ _ h => h) (Or.inl ⟨by rfl, ?_⟩) (by assumption) ?_
    rotate_left
    · (intro wS hSw; (try dsimp only at hSw); go_simp; try with_reducible rfl)
    simp only [Act.put, List.setIfInBounds_toArray, List.set_cons_zero, List.set_cons_succ]
    refine take_ (i := 8) (v := ?_) 30 rfl rfl (by kernel_rfl) (by kernel_rfl) (by kernel_rfl) (fun _ _ _ h => h) (Or.inl ⟨by rfl, ?_⟩) (by assumption) ?_
    rotate_left
    · (intro wS hSw; (try dsimp only at hSw); go_simp; try with_reducible rfl)
    simp only [Act.put, List.setIfInBounds_toArray, List.set_cons_zero, List.set_cons_succ]
    refine take_ (i := 9) (v := ?_) 31 rfl rfl (by kernel_rfl) (by kernel_rfl) (by kernel_rfl) (fun _ _ _ h => h) (Or.inl ⟨by rfl, ?_⟩) (by assumption) ?_
    rotate_left
    · (intro wS hSw; (try dsimp only at hSw); go_simp; try with_reducible rfl)
    simp only [Act.put, List.setIfInBounds_toArray, List.set_cons_zero, List.set_cons_succ]
    refine one_ (i := 10) _ (by kernel_rfl) rfl (fun K hK => ?_)
    go_simp
    refine RD1.mono ?_
    rintro e w3 ⟨v3, rfl, hfr⟩
    obtain ⟨q, rfl, hq, hq3⟩ := hfr.held hDl.out
    have B3 : Hid (Below w.heap.size w w3) := BW.out.trans ((Below.refl _ _).drew.trans (hfr.2.2.mono BW.out.size))
    have Q3 : Hid (w.heap.size ≤ q ∧ Held w3 q 5 (D.map u8v).toArray) := ⟨Nat.le_trans BW.out.size hq, hq3⟩
    have K3 := Lib.hid (HH.out.under B3.out)
    clear hfr hq hq3 RD RD1 K1 BW d0 d2
    have e0 : w3.cell? ⟨P.p, 0, none⟩ = some (.pointer (some ⟨P.d, 0, none⟩)) := K3.out.held.cell 0
    have e2 : w3.cell? ⟨P.p, 2, none⟩ = some (.int .i64 (P.reg : Int)) := K3.out.held.cell 2
    go_wp2_with fail
    refine hK.out _ _ ⟨e0, e2⟩ (fun hHeld => ?_)
    clear hK K
    refine take_ (i := 11) (v := ?_) 21 rfl rfl (by kernel_rfl) (by kernel_rfl) (by kernel_rfl) (fun _ _ _ h => h) (Or.inl ⟨by rfl, ?_⟩) (by assumption) ?_
    rotate_left
    · (intro wS hSw; (try dsimp only at hSw); go_simp; try with_reducible rfl)
    simp only [Act.put, List.setIfInBounds_toArray, List.set_cons_zero, List.set_cons_succ]
    refine take_ (i := 12) (v := ?_) 33 rfl rfl (by kernel_rfl) (by kernel_rfl) (by kernel_rfl) (fun _ _ _ h => h) (Or.inl ⟨by rfl, ?_⟩) (by assumption) ?_
    rotate_left
    · (intro wS hSw; (try dsimp only at hSw); go_simp; try with_reducible rfl)
    simp only [Act.put, List.setIfInBounds_toArray, List.set_cons_zero, List.set_cons_succ]
    refine take_ (i := 13) (v := ?_) 34 rfl rfl (by kernel_rfl) (by kernel_rfl) (by kernel_rfl) (fun _ _ _ h => h) (Or.inl ⟨by rfl, ?_⟩) (by assumption) ?_
    rotate_left
    · (intro wS hSw; (try dsimp only at hSw); go_simp; try with_reducible rfl)
    simp only [Act.put, List.setIfInBounds_toArray, List.set_cons_zero, List.set_cons_succ]
    refine take_ (i := 14) (v := ?_) 8 rfl rfl (by kernel_rfl) (by kernel_rfl) (by kernel_rfl) (fun _ _ _ h => h) (Or.inl ⟨by rfl, ?_⟩) (by assumption) ?_
    rotate_left
    · (intro wS hSw; (try dsimp only at hSw); go_simp; try with_reducible rfl)
    simp only [Act.put, List.setIfInBounds_toArray, List.set_cons_zero, List.set_cons_succ]
    refine take_ (i := 15) (v := ?_) 9 rfl rfl (by kernel_rfl) (by kernel_rfl) (by kernel_rfl) (fun _ _ _ h => h) (Or.inl ⟨by rfl, ?_⟩) (by assumption) ?_
    rotate_left
    · (intro wS hSw; (try dsimp only at hSw); go_simp; try with_reducible rfl)
    simp only [Act.put, List.setIfInBounds_toArray, List.set_cons_zero, List.set_cons_succ]
    refine wpAnyH_done (by kernel_rfl) ?_ _
    refine NoPanic.normal ?_
    have HE := Lib.hid (heed_any w3 P tx 0 K3.out)
    go_wp2_with fail
    refine HE.out.mono ?_
    rintro e w4 ⟨rfl, rfl⟩
    have KD := K3.out.setDead (P.dead || decide ((0 : Int) = 10))
    rw [hd] at KD ⊢
    have ho : Only [P.p] w (w3.setCell ⟨P.p, 5, none⟩ (.bool (false || decide ((0 : Int) = 10)))) := (Only.of_below (F := [P.p]) B3.out).setCell (.inl (by simp)) _
    have KD' := Lib.hid KD
    have HO := Lib.hid ho
    have QQ : Hid (Held (w3.setCell ⟨P.p, 5, none⟩ (.bool (false || decide ((0 : Int) = 10)))) q 5 (D.map u8v).toArray) := Q3.out.2.far (by
      have := HH.out.lt.1
      have := Q3.out.1
      show q ≠ P.p
      omega) _
    clear KD ho
    generalize w3.setCell ⟨P.p, 5, none⟩ (.bool (false || decide ((0 : Int) = 10))) = w5 at *
    go_wp2_with fail
    go_ret2
    exact ⟨⟨q, _, rfl, Q3.out.1, QQ.out⟩, KD'.out, HO.out⟩
end Go.Proofs.Ytaoldopkehbhkaa
