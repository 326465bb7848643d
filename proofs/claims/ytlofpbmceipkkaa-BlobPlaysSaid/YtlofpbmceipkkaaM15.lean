/-
  blob: text, blocks.
-/
import Derived.Test.YtlofpbmceipkkaaM14
namespace Go.Proofs.Ytlofpbmceipkkaa
open Go.RowKit Wal Blob

/-- A piece of a block is a piece of the text. -/
theorem piece_part (l : List Nat) (k d : Nat) (h1 : d ≤ 512 - k % 512) (h2 : k + d ≤ l.length) : ((pad ((l.drop (512 * (k / 512))).take 512)).drop (k % 512)).take d = (l.drop k).take d := by
  have hk : 512 * (k / 512) + k % 512 = k := Nat.div_add_mod k 512
  have hr : k % 512 < 512 := Nat.mod_lt _ (by omega)
  generalize k / 512 = q at *
  generalize k % 512 = r at *
  subst hk
  have hlen : ((l.drop (512 * q)).take 512).length = min 512 (l.length - 512 * q) := by rw [List.length_take, List.length_drop]
  unfold pad
  rw [List.drop_append, List.take_append_of_le_length (by rw [List.length_drop, hlen]; omega), List.drop_take, List.drop_drop, List.take_take, Nat.min_eq_left h1]
theorem piece_more (l : List Nat) (a k d : Nat) (h1 : a ≤ k) : (l.drop a).take (k - a) ++ (l.drop k).take d = (l.drop a).take (k + d - a) := by
  have e : l.drop k = (l.drop a).drop (k - a) := by rw [List.drop_drop]; congr 1; omega
  rw [e, show k + d - a = (k - a) + d by omega, List.take_add]
set_option maxRecDepth 100000 in
set_option maxHeartbeats 1600000 in
theorem btext_any (B : Nat) (w : World) (p n : Nat) (f : Nat → Option KB) (hm : MemAt B w p n f) (h : Nat) (parts l : List Nat) (hb : There n f h parts l) (A : Option Addr) (m c : Nat) (hmm : m = parts.length) (hi : IntsAt w A parts) (a z : Nat) (h1 : a ≤ z) (h2 : z ≤ l.length) :
    Calls Try.prog 23 #[blobV (sto p) h l.length A m c, .int .i64 (a : Int), .int .i64 (z : Int)] w fun e w' => e = .returned (strV ((l.drop a).take (z - a))) ∧ Below w.heap.size w w' := by
  have HM := Lib.hid hm
  have HT := Lib.hid hb
  have HI := Lib.hid hi
  have l1 := hb.most
  subst hmm
  clear hm hb hi
  obtain ⟨sv, hsv⟩ : ∃ sv, sv = sto p := ⟨_, rfl⟩
  have HS := Lib.hid hsv
  unfold sto at hsv
  unfold blobV blobCs
  rw [← HS.out]
  subst hsv
  go_enter Try.func23, Try.ntmps23
  go_upto_region 2 with fail
  obtain ⟨w1, hw1⟩ : ∃ w1, w1 = w.alloc (.cells #[.iface 24 (.pointer (some ⟨p, 0, none⟩)), .int .i64 (h : Int), .int .i64 (l.length : Int), .slice A parts.length c] 61) := ⟨_, rfl⟩
  obtain ⟨w2, hw2⟩ : ∃ w2, w2 = w1.alloc (.cells #[.pointer none, .slice none 0 0] 79) := ⟨_, rfl⟩
  rw [← hw1, ← hw2]
  have s1 : w1.heap.size = w.heap.size + 1 := by rw [hw1]; exact World.size_alloc _ _
  have B1 : Below w.heap.size w w1 := by rw [hw1]; exact (Below.refl _ _).alloc (Nat.le_refl _) _
  have B2 : Hid (Below w.heap.size w w2) := by rw [hw2]; exact B1.alloc B1.size _
  have H2 : Hid (Held w2 w.heap.size 61 #[.iface 24 (.pointer (some ⟨p, 0, none⟩)), .int .i64 (h : Int), .int .i64 (l.length : Int), .slice A parts.length c]) := by
    rw [hw2, hw1]
    exact (Held.new _ _ _ rfl).alloc _
  have L2 : Hid (Bld w2 (w.heap.size + 1) (w.heap.size + 1) []) := by rw [hw2]; exact Bld.new w1 _ _ s1.symm (by omega)
  obtain ⟨bx, hbx⟩ : ∃ bx, bx = w.heap.size := ⟨_, rfl⟩
  rw [← hbx] at H2 L2 ⊢
  have BX : Hid (bx = w.heap.size ∧ bx + 1 < w2.heap.size) := ⟨hbx, L2.out.lt⟩
  clear hw1 hw2 s1 B1 hbx
  go_loopw [1] (fun i wr => ∃ k : Nat, a ≤ k ∧ k ≤ z ∧ i = .int .i64 k ∧ Bld wr (bx + 1) (bx + 1) ((l.drop a).take (k - a)) ∧ Below (bx + 1) w2 wr) (fun i _ => z - (intOf i).toNat)
  case atStart => exact ⟨a, Nat.le_refl _, h1, rfl, by rw [Nat.sub_self, List.take_zero]; exact L2.out, Below.refl _ _⟩
  case round =>
    obtain ⟨k, hk1, hk2, rfl, hl, hbw⟩ := hrel
    have L := Lib.hid hl
    have BB := Lib.hid hbw
    clear hl hbw
    by_cases hlt : k < z
    · have HB := Lib.hid (HT.out.at_ (by omega))
      have HH := Lib.hid (H2.out.below BB.out (by omega))
      have c0 : wr.cell? ⟨bx, 0, none⟩ = some (.iface 24 (.pointer (some ⟨p, 0, none⟩))) := HH.out.cell 0
      have c3 : wr.cell? ⟨bx, 3, none⟩ = some (.slice A parts.length c) := HH.out.cell 3
      have BW : Hid (Below w.heap.size w wr) := B2.out.trans (BB.out.mono (by have := BX.out.1; omega))
      have hq : k / 512 < parts.length := by rw [HB.out.count]; omega
      obtain ⟨g2, off2, rfl, hc⟩ := (HI.out.below BW.out).cell hq
      have hx : parts[k / 512]? = some (parts.getD (k / 512) 0) := by rw [List.getD_eq_getElem?_getD, List.getElem?_eq_getElem hq]; rfl
      have hxp : 0 < parts.getD (k / 512) 0 := by
        have := HB.out.fine.step hq
        omega
      have RD := Lib.hid (bread_any B wr.drew p n f ((HM.out.under BW.out).under (Below.refl _ _).drew) _ _ (HB.out.part _ _ hx))
      generalize parts.getD (k / 512) 0 = x at *
      rw [show (((x - 1 : Nat) : Int) + 1) = (x : Int) by omega, ← HS.out] at RD
      have hqr : 512 * (k / 512) + k % 512 = k := Nat.div_add_mod k 512
      have hr : k % 512 < 512 := Nat.mod_lt _ (by omega)
      have PP := Lib.hid (fun d => piece_part l k d)
      have ri : (k : Int).tmod 512 = ((k % 512 : Nat) : Int) := rfl
      generalize k / 512 = q at *
      generalize k % 512 = r at *
      have qw : IntKind.i64.wrap ((k : Int) / 512) = (q : Int) := by rw [IntKind.wrap_i64]; omega
      have qn : (q : Int) < (parts.length : Int) := by omega
      have lk : (k : Int) < (z : Int) := by omega
      clear hx
      go_upto_region 3 with fail
      refine wp_region_noPanic ?_
      refine wp_region_held_drew (S := fun w' => w'.cell? ⟨bx, 0, none⟩ = some (.iface 24 (.pointer (some ⟨p, 0, none⟩))) ∧ w'.cell? ⟨bx, 3, none⟩ = some (.slice (some ⟨g2, off2, none⟩) parts.length c) ∧ w'.cell? ⟨g2, off2 + q, none⟩ = some (.int .i64 (x : Int))) (by kernel_rfl) ⟨c0, c3, hc⟩ (fun hHeld => ?_)
      refine take_ (i := 0) (v := ?_) 12 rfl rfl (by kernel_rfl) (by kernel_rfl) (by kernel_rfl) (fun _ _ _ h => h) (Or.inl ⟨by rfl, ?_⟩) (by assumption) ?_
      rotate_left
      · (intro wS hSw; (try dsimp only at hSw); go_simp; try with_reducible rfl)
      simp only [Act.put, List.setIfInBounds_toArray, List.set_cons_zero, List.set_cons_succ]
      refine take_ (i := 1) (v := ?_) 13 rfl rfl (by kernel_rfl) (by kernel_rfl) (by kernel_rfl) (fun _ _ _ h => h) (Or.inl ⟨by rfl, ?_⟩) (by assumption) ?_
      rotate_left
      · (intro wS hSw; (try dsimp only at hSw); go_simp; try with_reducible rfl)
      simp only [Act.put, List.setIfInBounds_toArray, List.set_cons_zero, List.set_cons_succ]
      refine take_ (i := 2) (v := ?_) 14 rfl rfl (by kernel_rfl) (by kernel_rfl) (by kernel_rfl) (fun _ _ _ h => h) (Or.inl ⟨by rfl, ?_⟩) (by assumption) ?_
      rotate_left
      · (intro wS hSw; (try dsimp only at hSw); go_simp; try with_reducible rfl)
      simp only [Act.put, List.setIfInBounds_toArray, List.set_cons_zero, List.set_cons_succ]
      refine take_ (i := 3) (v := ?_) 15 rfl rfl (by kernel_rfl) (by kernel_rfl) (by kernel_rfl) (fun _ _ _ h => h) (Or.inl ⟨by rfl, ?_⟩) (by assumption) ?_
      rotate_left
      · (intro wS hSw; (try dsimp only at hSw); go_simp; try with_reducible rfl)
      simp only [Act.put, List.setIfInBounds_toArray, List.set_cons_zero, List.set_cons_succ]
      refine take_ (i := 4) (v := ?_) 16 rfl rfl (by kernel_rfl) (by kernel_rfl) (by kernel_rfl) (fun _ _ _ h => h) (Or.inl ⟨by rfl, ?_⟩) (by assumption) ?_
      rotate_left
      · (intro wS hSw; (try dsimp only at hSw); go_simp; try with_reducible rfl)
      simp only [Act.put, List.setIfInBounds_toArray, List.set_cons_zero, List.set_cons_succ]
      refine take_ (i := 5) (v := ?_) 17 rfl rfl (by kernel_rfl) (by kernel_rfl) (by kernel_rfl) (fun _ _ _ h => h) (Or.inl ⟨by rfl, ?_⟩) (by assumption) ?_
      rotate_left
      · (intro wS hSw; (try dsimp only at hSw); go_simp; try with_reducible rfl)
      simp only [Act.put, List.setIfInBounds_toArray, List.set_cons_zero, List.set_cons_succ]
      refine take_ (i := 6) (v := ?_) 18 rfl rfl (by kernel_rfl) (by kernel_rfl) (by kernel_rfl) (fun _ _ _ h => h) (Or.inl ⟨by rfl, ?_⟩) (by assumption) ?_
      rotate_left
      · (intro wS hSw; (try dsimp only at hSw); go_simp; try with_reducible rfl)
      simp only [Act.put, List.setIfInBounds_toArray, List.set_cons_zero, List.set_cons_succ]
      refine take_ (i := 7) (v := ?_) 19 rfl rfl (by kernel_rfl) (by kernel_rfl) (by kernel_rfl) (fun _ _ _ h => h) (Or.inl ⟨by rfl, ?_⟩) (by assumption) ?_
      rotate_left
      · (intro wS hSw; (try dsimp only at hSw); go_simp; try with_reducible rfl)
      simp only [Act.put, List.setIfInBounds_toArray, List.set_cons_zero, List.set_cons_succ]
      refine take_ (i := 9) (v := ?_) 21 rfl rfl (by kernel_rfl) (by kernel_rfl) (by kernel_rfl) (fun _ _ _ h => h) (Or.inl ⟨by rfl, ?_⟩) (by assumption) ?_
      rotate_left
      · (intro wS hSw; (try dsimp only at hSw); go_simp; try with_reducible rfl)
      simp only [Act.put, List.setIfInBounds_toArray, List.set_cons_zero, List.set_cons_succ]
      refine take_ (i := 10) (v := ?_) 22 rfl rfl (by kernel_rfl) (by kernel_rfl) (by kernel_rfl) (fun _ _ _ h => h) (Or.inl ⟨by rfl, ?_⟩) (by assumption) ?_
      rotate_left
      · (intro wS hSw; (try dsimp only at hSw); go_simp; try with_reducible rfl)
      simp only [Act.put, List.setIfInBounds_toArray, List.set_cons_zero, List.set_cons_succ]
      refine one_ (i := 8) _ (by kernel_rfl) rfl (fun K hK => ?_)
      go_simp
      refine RD.out.mono ?_
      rintro e w3 ⟨g, cp, rfl, hcp, hg, hbt, hb3⟩
      have W3 : Hid (Below wr.heap.size wr w3) := (Below.refl _ _).drew.trans hb3
      have L3 := Lib.hid (L.out.below W3.out)
      have BT := Lib.hid hbt
      have GB : Hid (bx + 1 < g) := by
        have h1 : wr.heap.size ≤ g := hg
        have h2 := L.out.lt
        show _ < _
        omega
      have H3 := Lib.hid (HH.out.below W3.out HH.out.lt)
      have d0 : w3.cell? ⟨bx, 0, none⟩ = some (.iface 24 (.pointer (some ⟨p, 0, none⟩))) := H3.out.cell 0
      have d3 : w3.cell? ⟨bx, 3, none⟩ = some (.slice (some ⟨g2, off2, none⟩) parts.length c) := H3.out.cell 3
      have dc : w3.cell? ⟨g2, off2 + q, none⟩ = some (.int .i64 (x : Int)) := (W3.out.cell (p := ⟨g2, off2 + q, none⟩) (block_lt hc)).trans hc
      have rc : r ≤ cp := by omega
      have r5 : (r : Int) ≤ 512 := by omega
      have cr : ¬ cp = r := by omega
      clear hbt hb3 hg hHeld RD c0 c3 hc
      go_wp2_with fail
      refine hK.out _ _ ⟨d0, d3, dc⟩ (fun hHeld => ?_)
      clear hK K
      refine take_ (i := 11) (v := ?_) 23 rfl rfl (by kernel_rfl) (by kernel_rfl) (by kernel_rfl) (fun _ _ _ h => h) (Or.inl ⟨by rfl, ?_⟩) (by assumption) ?_
      rotate_left
      · (intro wS hSw; (try dsimp only at hSw); go_simp; try with_reducible rfl)
      simp only [Act.put, List.setIfInBounds_toArray, List.set_cons_zero, List.set_cons_succ]
      refine take_ (i := 12) (v := ?_) 8 rfl rfl (by kernel_rfl) (by kernel_rfl) (by kernel_rfl) (fun _ _ _ h => h) (Or.inl ⟨by rfl, ?_⟩) (by assumption) ?_
      rotate_left
      · (intro wS hSw; (try dsimp only at hSw); go_simp; try with_reducible rfl)
      simp only [Act.put, List.setIfInBounds_toArray, List.set_cons_zero, List.set_cons_succ]
      refine wpAnyH_done (by kernel_rfl) ?_ _
      refine NoPanic.normal ?_
      have PC : ∀ d, d = min (512 - r) (z - k) → Hid (1 ≤ d ∧ d ≤ 512 - r ∧ k + d ≤ z) := fun d hd => ⟨by omega, by omega, by omega⟩
      obtain ⟨d, hd⟩ : ∃ d, d = min (512 - r) (z - k) := ⟨_, rfl⟩
      have D := PC d hd
      have BS := Lib.hid ((BT.out.sub r d (by have := D.out.2.1; omega)))
      rw [PP.out d D.out.2.1 (by have := D.out.2.2; omega), Nat.zero_add] at BS
      have WR := Lib.hid (fun c' => bwrite_any (bx + 1) (bx + 1) _ w3 L3.out ⟨g, r, none⟩ d c' _ BS.out (by show g ≠ bx + 1; have := GB.out; omega) (by rw [List.length_take]; have := D.out.2.2; omega) (by have := L3.out.lt; omega))
      rw [piece_more l a k d hk1] at WR
      have DD := Lib.hid hd
      have md : min ((512 - r : Nat) : Int) ((z : Int) - (k : Int)) = (d : Int) := by omega
      have DE := Lib.hid hd
      clear PC hd
      go_wp2_with fail
      refine (WR.out _).mono ?_
      rintro e w5 ⟨⟨v5, rfl⟩, hl5, hb5⟩
      have L5 := Lib.hid hl5
      have B5 : Hid (Below (bx + 1) w2 w5) := (BB.out.trans (W3.out.mono (by have := L.out.lt; omega))).trans hb5
      have nz : wrap64 ((k : Int) + (d : Int)) = ((k + d : Nat) : Int) := by have := D.out.2.2; unfold wrap64; omega
      clear hl5 hb5 WR
      clear md r5 cr rc qw ri qn lk hqr hr hxp
      go_wp2_with fail
      go_roundw
      case rel => exact ⟨k + d, Nat.le_trans hk1 (Nat.le_add_right _ _), D.out.2.2, congrArg (Value.int .i64) nz, L5.out, B5.out⟩
      case measure =>
        have d1 := D.out.1
        have d2 := D.out.2.2
        rw [nz]
        show z - ((k + d : Nat) : Int).toNat < z - ((k : Nat) : Int).toNat
        rw [Int.toNat_natCast, Int.toNat_natCast]
        omega
    · obtain rfl : k = z := by omega
      have TX := Lib.hid (text_any (bx + 1) (bx + 1) _ wr L.out (by have := L.out.lt; omega))
      go_wp2_with fail
      refine TX.out.mono ?_
      rintro e w3 ⟨rfl, hb3⟩
      have W3 : Hid (Below w.heap.size w w3) := B2.out.trans ((BB.out.trans hb3).mono (by have := BX.out.1; omega))
      clear hb3 TX
      go_wp2_with fail
      go_ret
      exact ⟨rfl, W3.out⟩
/-- All blocks of a blob. -/
def allB (h : Nat) (parts : List Nat) : List Nat := if h = 0 then [] else h :: parts
theorem own_one (w : World) (x b base : Nat) (hb : b = w.heap.size) (hbase : base ≤ b) : OwnI (w.alloc (.cells #[.int .i64 (x : Int)] 3)) base (.slice (some ⟨b, 0, none⟩) 1 1) [x] := by
  subst hb
  exact ⟨rfl, .inr ⟨_, 1, _, rfl, hbase, heap_alloc_new w _, Nat.le_refl _, by decide, rfl, rfl⟩⟩
set_option maxRecDepth 100000 in
set_option maxHeartbeats 1600000 in
theorem blocks_any (w : World) (s : Value) (h sz : Nat) (parts : List Nat) (A : Option Addr) (m c : Nat) (hmm : m = parts.length) (hi : IntsAt w A parts) (hn : parts.length ≤ 96) (hs : ∃ p, s = .iface 24 (.pointer (some ⟨p, 0, none⟩))) :
    Calls Try.prog 36 #[blobV s h sz A m c] w fun e w' => ∃ A' m' c', m' = (allB h parts).length ∧ e = .returned (.slice A' m' c') ∧ IntsAt w' A' (allB h parts) ∧ Below w.heap.size w w' := by
  obtain ⟨p, rfl⟩ := hs
  subst hmm
  have HI := Lib.hid hi
  clear hi
  unfold blobV blobCs
  by_cases h0 : h = 0
  · subst h0
    go_enter Try.func36, Try.ntmps36
    go_wp2_with fail
    go_ret
    exact ⟨none, 0, 0, rfl, rfl, fun h => by simp [allB] at h, (Below.refl _ _).alloc (Nat.le_refl _) _⟩
  · have hz : ¬ (h : Int) = 0 := by omega
    have AB : Hid (allB h parts = h :: parts) := if_neg h0
    rw [AB.out]
    clear h0
    go_enter Try.func36, Try.ntmps36
    obtain ⟨w1, hw1⟩ : ∃ w1, w1 = (w.alloc (.cells #[.iface 24 (.pointer (some ⟨p, 0, none⟩)), .int .i64 (h : Int), .int .i64 (sz : Int), .slice A parts.length c] 61)).alloc (.cells #[.int .i64 (h : Int)] 3) := ⟨_, rfl⟩
    have B1 : Hid (Below w.heap.size w w1) := by rw [hw1]; exact ((Below.refl _ _).alloc (Nat.le_refl _) _).alloc (by simp) _
    have R1 : Hid (OwnI w1 w.heap.size (.slice (some ⟨w.heap.size + 1, 0, none⟩) 1 1) [h]) := by rw [hw1]; exact own_one _ h _ _ (by simp) (by omega)
    have I1 := Lib.hid (HI.out.below B1.out)
    have HW := Lib.hid hw1
    clear hw1
    go_wp2_with (at_builtin; rw [← HW.out]; refine wpList_append_ints rfl (.tmp 8) (.tmp 10) rfl w.heap.size _ _ rfl R1.out A parts.length c parts rfl rfl I1.out (by simp; omega) B1.out.size ?_; intro v4 w4 hown4 hg4 hv4; obtain ⟨A4, c4, rfl, _, hi4⟩ := hown4.any; have I4 := Lib.hid hi4; have B4 : Hid (Below w.heap.size w w4) := B1.out.grown hg4 B1.out.size (fun x hx => (R1.out.lt x hx).1); clear hown4 hg4 hv4 hi4)
    go_ret
    exact ⟨A4, _, c4, rfl, rfl, I4.out, B4.out⟩
end Go.Proofs.Ytlofpbmceipkkaa
