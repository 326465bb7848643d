/-
  blob: what stands on a head's block; pack.
-/
import Derived.Test.YtlofpbmceipkkaaM9
import Derived.Test.YtlofpbmceipkkaaCrcA
import Derived.Test.YtlofpbmceipkkaaReg
namespace Go.Proofs.Ytlofpbmceipkkaa
open Go.RowKit Wal

namespace Blob
/-- The first k steps between blocks. -/
def stepsB (bs : List Nat) (k : Nat) : List Nat := (List.range k).flatMap fun i => num 5 (bs.getD (i + 1) 0 - bs.getD i 0)
theorem stepsB_succ (bs : List Nat) (k : Nat) : stepsB bs (k + 1) = stepsB bs k ++ num 5 (bs.getD (k + 1) 0 - bs.getD k 0) := by
  unfold stepsB
  rw [List.range_succ, List.flatMap_append]
  simp
theorem stepsB_length (bs : List Nat) (k : Nat) : (stepsB bs k).length = 5 * k := by
  induction k with
  | zero => rfl
  | succ k ih => rw [stepsB_succ, List.length_append, ih, num_length]; omega
theorem stepsB_bytes (bs : List Nat) (k : Nat) : ∀ x ∈ stepsB bs k, x < 256 := fun x hx => by
  obtain ⟨i, _, hi⟩ := List.mem_flatMap.1 hx
  exact num_bytes _ _ x hi
/-- What is told of a blob of sz bytes on the blocks bs. -/
def toldB (sz : Nat) (bs : List Nat) (k : Nat) : List Nat := num 2 sz ++ stepsB bs k
theorem toldB_length (sz : Nat) (bs : List Nat) (k : Nat) : (toldB sz bs k).length = 2 + 5 * k := by
  unfold toldB
  rw [List.length_append, num_length, stepsB_length]
theorem toldB_bytes (sz : Nat) (bs : List Nat) (k : Nat) : ∀ x ∈ toldB sz bs k, x < 256 := fun x hx => by
  rcases List.mem_append.1 hx with hx | hx
  · exact num_bytes _ _ x hx
  · exact stepsB_bytes _ _ x hx
def bodyB (sz : Nat) (h : Nat) (parts : List Nat) : List Nat := (pad (toldB sz (h :: parts) parts.length)).take 508
theorem bodyB_bytes (sz h : Nat) (parts : List Nat) : ∀ x ∈ bodyB sz h parts, x < 256 := fun x hx => pad_bytes (toldB_bytes _ _ _) x (List.mem_of_mem_take hx)
theorem bodyB_length (sz h : Nat) (parts : List Nat) (hn : parts.length ≤ 96) : (bodyB sz h parts).length = 508 := by
  unfold bodyB
  rw [List.length_take, pad_length (by rw [toldB_length]; omega)]
  rfl
def sumB (sz h : Nat) (parts : List Nat) : Nat := Crc.upd (Crc.sum (num 8 h)) (bodyB sz h parts)
theorem sumB_lt (sz h : Nat) (parts : List Nat) : sumB sz h parts < 4294967296 := Crc.upd_lt (Crc.sum_lt (num_bytes _ _)) (bodyB_bytes _ _ _)
/-- A head's block. -/
def packB (sz h : Nat) (parts : List Nat) : List Nat := num 4 (sumB sz h parts) ++ bodyB sz h parts
theorem packB_length (sz h : Nat) (parts : List Nat) (hn : parts.length ≤ 96) : (packB sz h parts).length = 512 := by
  unfold packB
  rw [List.length_append, num_length, bodyB_length _ _ _ hn]
theorem packB_bytes (sz h : Nat) (parts : List Nat) : ∀ x ∈ packB sz h parts, x < 256 := fun x hx => by
  rcases List.mem_append.1 hx with hx | hx
  · exact num_bytes _ _ x hx
  · exact bodyB_bytes _ _ _ x hx
end Blob
open Blob

/-- Numbers of blocks that lie in a row of cells. -/
def IntsAt (w : World) (A : Option Addr) (bs : List Nat) : Prop := 0 < bs.length → ∃ g off cs, A = some ⟨g, off, none⟩ ∧ Held w g 3 cs ∧ ∀ (i x : Nat), bs[i]? = some x → cs[off + i]? = some (.int .i64 (x : Int))
theorem IntsAt.kp {B : Nat} {w w' : World} {A : Option Addr} {bs : List Nat} (h : IntsAt w A bs) (k : Kp B w w') : IntsAt w' A bs := fun hp => by
  obtain ⟨g, off, cs, e, hh, hc⟩ := h hp
  exact ⟨g, off, cs, e, k.held hh (by decide) (by decide), hc⟩
theorem IntsAt.below {w w' : World} {A : Option Addr} {bs : List Nat} (h : IntsAt w A bs) (k : Below w.heap.size w w') : IntsAt w' A bs := h.kp (Kp.under (B := 0) k)
theorem IntsAt.cell {w : World} {A : Option Addr} {bs : List Nat} (h : IntsAt w A bs) {i : Nat} (hi : i < bs.length) : ∃ g off, A = some ⟨g, off, none⟩ ∧ w.cell? ⟨g, off + i, none⟩ = some (.int .i64 ((bs.getD i 0 : Nat) : Int)) := by
  obtain ⟨g, off, cs, e, hh, hc⟩ := h (by omega)
  refine ⟨g, off, e, ?_⟩
  rw [hh.cell, List.getD_eq_getElem?_getD, List.getElem?_eq_getElem hi]
  exact hc i _ (List.getElem?_eq_getElem hi)
/-- Blocks that a blob may have: the head, and parts that rise. -/
structure Fine (h : Nat) (parts : List Nat) : Prop where
  pos : 0 < h
  rise : (h :: parts).Pairwise (· < ·)
  most : ∀ x ∈ h :: parts, x ≤ 4096
  few : parts.length ≤ 96
theorem Fine.step {h : Nat} {parts : List Nat} (f : Fine h parts) {k : Nat} (hk : k < parts.length) : 0 < (h :: parts).getD k 0 ∧ (h :: parts).getD k 0 < (h :: parts).getD (k + 1) 0 ∧ (h :: parts).getD (k + 1) 0 ≤ 4096 ∧ (h :: parts).getD (k + 1) 0 = parts.getD k 0 := by
  have l1 : k < (h :: parts).length := by simp; omega
  have l2 : k + 1 < (h :: parts).length := by simp; omega
  have e1 : (h :: parts).getD k 0 = (h :: parts)[k] := by rw [List.getD_eq_getElem?_getD, List.getElem?_eq_getElem l1]; rfl
  have e2 : (h :: parts).getD (k + 1) 0 = (h :: parts)[k + 1] := by rw [List.getD_eq_getElem?_getD, List.getElem?_eq_getElem l2]; rfl
  refine ⟨?_, ?_, ?_, by simp⟩
  · rw [e1]
    rcases k with _ | k
    · exact f.pos
    · have := (List.pairwise_cons.1 f.rise).1 ((h :: parts)[k + 1]) (by simp)
      have := f.pos
      omega
  · rw [e1, e2]
    exact List.pairwise_iff_getElem.1 f.rise _ _ _ _ (Nat.lt_succ_self k)
  · rw [e2]
    exact f.most _ (List.getElem_mem l2)
/-- A blob, as a value. -/
def blobCs (s : Value) (h sz : Nat) (A : Option Addr) (n c : Nat) : Array Value := #[s, .int .i64 (h : Int), .int .i64 (sz : Int), .slice A n c]
theorem make_512 (u : World) : (Instr.makeSlice 45 (.int .i64 0) (.int .i64 512)).run Try.prog u = .ok (.slice (some ⟨u.heap.size, 0, none⟩) 0 512) (u.alloc (.cells ((pad []).map u8v).toArray 5)) := by
  obtain ⟨i0, hi, hz0, hz1, hz2⟩ := info_parts info5
  have h := run_make (P := Try.prog) u 45 5 i0 (.int .u8 0) Try.underlying45 hi hz0 .i64 .i64 0 512 (by omega) (by omega) (by rw [hz2]; decide) (by decide)
  have e2 : madeCells #[.int .u8 0] 512 = ((pad []).map u8v).toArray := by
    apply Array.toList_inj.1
    rw [toList_madeCells_one]
    unfold pad
    rw [List.nil_append, List.map_replicate, List.toList_toArray]
    rfl
  rw [← e2]
  simpa [hz1, Value.cells] using h
theorem OwnB.base_ {e : TypeId} {w : World} {base base' : Nat} {v : Value} {l : List Nat} (h : OwnB w base e v l) (hb : base' ≤ base) : OwnB w base' e v l :=
  ⟨⟨h.1.1, h.1.2.imp id fun ⟨g, cap, cur, a1, a2, a3⟩ => ⟨g, cap, cur, a1, Nat.le_trans hb a2, a3⟩⟩, h.2⟩
set_option maxRecDepth 100000 in
set_option maxHeartbeats 1600000 in
theorem pack_any (w : World) (b : Nat) (s : Value) (sz h : Nat) (parts : List Nat) (A : Option Addr) (c : Nat) (hb : Held w b 61 (blobCs s h sz A parts.length c)) (hi : IntsAt w A parts) (hf : Fine h parts) (hs : sz ≤ 49152) :
    Calls Try.prog 52 #[.pointer (some ⟨b, 0, none⟩)] w fun e w' => ∃ v, e = .returned (.tuple #[v, .bool true]) ∧ OwnB w' w.heap.size 5 v (packB sz h parts) ∧ Below w.heap.size w w' := by
  have HB := Lib.hid hb
  have HI := Lib.hid hi
  have HF := Lib.hid hf
  have c1 : w.cell? ⟨b, 1, none⟩ = some (.int .i64 (h : Int)) := hb.cell 1
  have c2 : w.cell? ⟨b, 2, none⟩ = some (.int .i64 (sz : Int)) := hb.cell 2
  have c3 : w.cell? ⟨b, 3, none⟩ = some (.slice A parts.length c) := hb.cell 3
  have mk := make_512
  have b1 : h ≤ 4096 := hf.most h (by simp)
  have b0 := hf.pos
  have b2 := hf.few
  clear hb hi hf
  go_enter Try.func52, Try.ntmps52
  have wz : IntKind.u64.wrap (sz : Int) = (sz : Int) := by rw [IntKind.wrap_u64]; omega
  have wh : IntKind.u64.wrap (h : Int) = (h : Int) := by rw [IntKind.wrap_u64]; omega
  go_upto_region 1 with fail
  refine wp_region_noPanic ?_
  refine wp_region_held_drew (S := fun w' => w'.cell? ⟨b, 2, none⟩ = some (.int .i64 (sz : Int))) (by kernel_rfl) c2 (fun hHeld => ?_)
  refine take_ (i := 1) (v := ?_) 11 rfl rfl (by kernel_rfl) (by kernel_rfl) (by kernel_rfl) (fun _ _ _ h => h) (Or.inl ⟨by rfl, ?_⟩) (by assumption) ?_
  rotate_left
  · (intro wS hSw; (try dsimp only at hSw); go_simp; try with_reducible rfl)
  simp only [Act.put, List.setIfInBounds_toArray, List.set_cons_zero, List.set_cons_succ]
  refine take_ (i := 2) (v := ?_) 12 rfl rfl (by kernel_rfl) (by kernel_rfl) (by kernel_rfl) (fun _ _ _ h => h) (Or.inl ⟨by rfl, ?_⟩) (by assumption) ?_
  rotate_left
  · (intro wS hSw; (try dsimp only at hSw); go_simp; try with_reducible rfl)
  simp only [Act.put, List.setIfInBounds_toArray, List.set_cons_zero, List.set_cons_succ]
  refine take_ (i := 3) (v := ?_) 13 rfl rfl (by kernel_rfl) (by kernel_rfl) (by kernel_rfl) (fun _ _ _ h => h) (Or.inl ⟨by rfl, ?_⟩) (by assumption) ?_
  rotate_left
  · (intro wS hSw; (try dsimp only at hSw); go_simp; try with_reducible rfl)
  simp only [Act.put, List.setIfInBounds_toArray, List.set_cons_zero, List.set_cons_succ]
  refine take_ (i := 4) (v := ?_) 14 rfl rfl (by kernel_rfl) (by kernel_rfl) (by kernel_rfl) (fun _ _ _ h => h) (Or.inl ⟨by rfl, ?_⟩) (by assumption) ?_
  rotate_left
  · (intro wS hSw; (try dsimp only at hSw); go_simp; try with_reducible rfl)
  simp only [Act.put, List.setIfInBounds_toArray, List.set_cons_zero, List.set_cons_succ]
  refine take_ (i := 5) (v := ?_) 15 rfl rfl (by kernel_rfl) (by kernel_rfl) (by kernel_rfl) (fun _ _ _ h => h) (Or.inl ⟨by rfl, ?_⟩) (by assumption) ?_
  rotate_left
  · (intro wS hSw; (try dsimp only at hSw); go_simp; try with_reducible rfl)
  simp only [Act.put, List.setIfInBounds_toArray, List.set_cons_zero, List.set_cons_succ]
  refine one_ (i := 0) _ (by kernel_rfl) rfl (fun K hK => ?_)
  go_simp
  obtain ⟨w1, hw1⟩ : ∃ w1, w1 = (w.alloc (.cells ((pad []).map u8v).toArray 5)).drew := ⟨_, rfl⟩
  obtain ⟨g, hg⟩ : ∃ g, g = w.heap.size := ⟨_, rfl⟩
  have BW : Hid (Below w.heap.size w w1) := by rw [hw1]; exact ((Below.refl _ _).alloc (Nat.le_refl _) _).drew
  have T1 : Hid (Tld w1 g []) := by rw [hw1]; exact ⟨(Held.new _ _ _ hg).drew, by simp, by simp⟩
  have NG : Hid (g < w1.heap.size ∧ w.heap.size ≤ g) := ⟨T1.out.held.lt, by omega⟩
  have d1 := ((HB.out.below BW.out HB.out.lt).cell 2)
  rw [← hw1, ← hg]
  clear hw1 hg hHeld mk
  refine hK.out _ _ d1 (fun hHeld => ?_)
  clear hK K
  refine one_ (i := 6) _ (by kernel_rfl) rfl (fun K hK => ?_)
  go_simp
  refine (appnum_in w1 g [] sz 2 T1.out (by omega) (by omega) (by simp)).mono ?_
  rintro e w2 ⟨rfl, ht2, ho2⟩
  have T2 : Hid (Tld w2 g (num 2 sz)) := by have := ht2; rwa [List.nil_append] at this
  have B2 : Hid (Below w.heap.size w w2) := BW.out.trans (ho2.below BW.out.size (fun x hx => by
    have : x = g := by simpa using hx
    have := NG.out.2
    omega))
  have e2 : w2.cell? ⟨b, 2, none⟩ = some (.int .i64 (sz : Int)) := ((HB.out.below B2.out HB.out.lt).cell 2)
  have e1 : w2.cell? ⟨b, 1, none⟩ = some (.int .i64 (h : Int)) := ((HB.out.below B2.out HB.out.lt).cell 1)
  have e3 : w2.cell? ⟨b, 3, none⟩ = some (.slice A parts.length c) := ((HB.out.below B2.out HB.out.lt).cell 3)
  clear ht2 ho2 T1 d1
  go_wp2_with fail
  refine hK.out _ _ e2 (fun hHeld => ?_)
  clear hK K
  refine take_ (i := 7) (v := ?_) 4 rfl rfl (by kernel_rfl) (by kernel_rfl) (by kernel_rfl) (fun _ _ _ h => h) (Or.inl ⟨by rfl, ?_⟩) (by assumption) ?_
  rotate_left
  · (intro wS hSw; (try dsimp only at hSw); go_simp; try with_reducible rfl)
  simp only [Act.put, List.setIfInBounds_toArray, List.set_cons_zero, List.set_cons_succ]
  refine wpAnyH_done (by kernel_rfl) ?_ _
  refine NoPanic.normal ?_
  go_wp2_with fail
  go_loopw [4, 5, 26] (fun t l i wr => ∃ k : Nat, k ≤ parts.length ∧ i = .int .i64 k ∧ l = .int .i64 (((h :: parts).getD k 0 : Nat) : Int) ∧ t = .slice (some ⟨g, 0, none⟩) (2 + 5 * k) 512 ∧ Tld wr g (toldB sz (h :: parts) k) ∧ Below w.heap.size w wr) (fun _ _ i _ => parts.length - (intOf i).toNat)
  case atStart => exact ⟨0, by omega, rfl, rfl, rfl, by unfold toldB; rw [show stepsB (h :: parts) 0 = [] from rfl, List.append_nil]; exact T2.out, B2.out⟩
  case round =>
    obtain ⟨k, hk, rfl, rfl, rfl, ht, hbw⟩ := hrel
    have T := Lib.hid ht
    have BB := Lib.hid hbw
    clear ht hbw
    by_cases hlt : k < parts.length
    · obtain ⟨p1, p2, p3, p4⟩ := HF.out.step hlt
      have SS : Hid (toldB sz (h :: parts) (k + 1) = toldB sz (h :: parts) k ++ num 5 ((h :: parts).getD (k + 1) 0 - (h :: parts).getD k 0)) := by show _ = _; unfold toldB; rw [stepsB_succ, List.append_assoc]
      obtain ⟨g2, off2, rfl, hc⟩ := (HI.out.below BB.out).cell hlt
      have SL : Hid ((toldB sz (h :: parts) k).length = 2 + 5 * k) := toldB_length _ _ _
      rw [← p4] at hc
      have HY : Hid (∃ z, z = (h :: parts).getD (k + 1) 0) := ⟨_, rfl⟩
      generalize hy : (h :: parts).getD (k + 1) 0 = y at *
      have HE := Lib.hid hy
      clear hy HY
      generalize (h :: parts).getD k 0 = x at *
      have wx : IntKind.u64.wrap (x : Int) = (x : Int) := by rw [IntKind.wrap_u64]; omega
      have wy : IntKind.u64.wrap (y : Int) = (y : Int) := by rw [IntKind.wrap_u64]; omega
      have wd : IntKind.u64.wrap ((y : Int) - (x : Int)) = ((y - x : Nat) : Int) := by rw [IntKind.wrap_u64]; omega
      have le : ¬ (y : Int) ≤ (x : Int) := by omega
      have sh : ((y - x : Nat) : Int) / 1099511627776 = 0 := by omega
      have lk : (k : Int) < (parts.length : Int) := by omega
      have hx64 : y - x < 18446744073709551616 := by omega
      have AN := Lib.hid (appnum_in wr g (toldB sz (h :: parts) k) (y - x) 5 T.out hx64 (by omega) (by rw [SL.out]; omega))
      rw [SL.out] at AN
      clear p4
      go_wp2_with fail
      refine AN.out.mono ?_
      rintro e w5 ⟨rfl, ht5, ho5⟩
      have T5 : Hid (Tld w5 g (toldB sz (h :: parts) (k + 1))) := by show Tld _ _ _; rw [SS.out]; exact ht5
      have B5 : Hid (Below w.heap.size w w5) := BB.out.trans (ho5.below BB.out.size (fun x hx => by
        have : x = g := by simpa using hx
        have := NG.out.2
        omega))
      clear ht5 ho5 AN
      go_wp2_with fail
      go_roundw
      case rel => exact ⟨k + 1, by omega, by go_num, by rw [HE.out], by rw [show 2 + 5 * k + 5 = 2 + 5 * (k + 1) by omega], T5.out, B5.out⟩
      case measure => simp [intOf]; omega
    · obtain rfl : k = parts.length := by omega
      have f1 : wr.cell? ⟨b, 1, none⟩ = some (.int .i64 (h : Int)) := ((HB.out.below BB.out HB.out.lt).cell 1)
      have hh64 : h < 18446744073709551616 := by omega
      have AN := Lib.hid (appnum_nil wr h 8 hh64 (by omega))
      have BD : Hid (Bts wr (some ⟨g, 0, none⟩) 508 (bodyB sz h parts)) := T.out.bts (by omega)
      clear wz
      go_wp2_with fail
      refine AN.out.mono ?_
      rintro e w5 ⟨v5, rfl, ho5, hb5⟩
      have O5 := Lib.hid ho5
      have B5 := Lib.hid hb5
      obtain ⟨A5, c5, rfl, hbt⟩ := ho5.any
      have SM := Lib.hid (sum_any A5 _ c5 _ w5 (by rw [num_length]; omega) hbt)
      have UP := Lib.hid (update_any (Crc.sum (num 8 h) : Nat) (by omega) (by have := Crc.sum_lt (num_bytes 8 h); omega) (some ⟨g, 0, none⟩) 508 512 (bodyB sz h parts) w5 (by omega) (BD.out.below B5.out (fun a ha => by injection ha with ha; subst ha; exact T.out.held.lt)))
      rw [Int.toNat_natCast] at UP
      clear hbt ho5 hb5 AN
      go_wp2_with fail
      refine SM.out.mono ?_
      rintro e w6 ⟨rfl, rfl⟩
      clear SM
      go_wp2_with fail
      refine UP.out.mono ?_
      rintro e w6 ⟨rfl, rfl⟩
      clear UP
      have sl : sumB sz h parts < 4294967296 := sumB_lt sz h parts
      have su : Hid (Crc.upd (Crc.sum (num 8 h)) (bodyB sz h parts) = sumB sz h parts) := rfl
      rw [su.out]
      generalize hq : sumB sz h parts = q at *
      have PQ : Hid (packB sz h parts = num 4 q ++ bodyB sz h parts) := by show _ = _; rw [← hq]; rfl
      clear hq su
      have wq : IntKind.u64.wrap (q : Int) = (q : Int) := by rw [IntKind.wrap_u64]; omega
      have g1 : w5.cell? ⟨b, 1, none⟩ = some (.int .i64 (h : Int)) := (B5.out.cell (p := ⟨b, 1, none⟩) (block_lt f1)).trans f1
      have h0 : (0 : Int) < (h : Int) := by omega
      go_upto_region 14 with fail
      refine wp_region_noPanic ?_
      refine wp_region_held_drew (S := fun w' => w'.cell? ⟨b, 1, none⟩ = some (.int .i64 (h : Int))) (by kernel_rfl) g1 (fun hHeld => ?_)
      refine take_ (i := 0) (v := ?_) 59 rfl rfl (by kernel_rfl) (by kernel_rfl) (by kernel_rfl) (fun _ _ _ h => h) (Or.inl ⟨by rfl, ?_⟩) (by assumption) ?_
      rotate_left
      · (intro wS hSw; (try dsimp only at hSw); go_simp; try with_reducible rfl)
      simp only [Act.put, List.setIfInBounds_toArray, List.set_cons_zero, List.set_cons_succ]
      refine take_ (i := 1) (v := ?_) 60 rfl rfl (by kernel_rfl) (by kernel_rfl) (by kernel_rfl) (fun _ _ _ h => h) (Or.inl ⟨by rfl, ?_⟩) (by assumption) ?_
      rotate_left
      · (intro wS hSw; (try dsimp only at hSw); go_simp; try with_reducible rfl)
      simp only [Act.put, List.setIfInBounds_toArray, List.set_cons_zero, List.set_cons_succ]
      refine take_ (i := 3) (v := ?_) 62 rfl rfl (by kernel_rfl) (by kernel_rfl) (by kernel_rfl) (fun _ _ _ h => h) (Or.inl ⟨by rfl, ?_⟩) (by assumption) ?_
      rotate_left
      · (intro wS hSw; (try dsimp only at hSw); go_simp; try with_reducible rfl)
      simp only [Act.put, List.setIfInBounds_toArray, List.set_cons_zero, List.set_cons_succ]
      refine take_ (i := 5) (v := ?_) 64 rfl rfl (by kernel_rfl) (by kernel_rfl) (by kernel_rfl) (fun _ _ _ h => h) (Or.inl ⟨by rfl, ?_⟩) (by assumption) ?_
      rotate_left
      · (intro wS hSw; (try dsimp only at hSw); go_simp; try with_reducible rfl)
      simp only [Act.put, List.setIfInBounds_toArray, List.set_cons_zero, List.set_cons_succ]
      refine take_ (i := 6) (v := ?_) 65 rfl rfl (by kernel_rfl) (by kernel_rfl) (by kernel_rfl) (fun _ _ _ h => h) (Or.inl ⟨by rfl, ?_⟩) (by assumption) ?_
      rotate_left
      · (intro wS hSw; (try dsimp only at hSw); go_simp; try with_reducible rfl)
      simp only [Act.put, List.setIfInBounds_toArray, List.set_cons_zero, List.set_cons_succ]
      refine take_ (i := 7) (v := ?_) 66 rfl rfl (by kernel_rfl) (by kernel_rfl) (by kernel_rfl) (fun _ _ _ h => h) (Or.inl ⟨by rfl, ?_⟩) (by assumption) ?_
      rotate_left
      · (intro wS hSw; (try dsimp only at hSw); go_simp; try with_reducible rfl)
      simp only [Act.put, List.setIfInBounds_toArray, List.set_cons_zero, List.set_cons_succ]
      refine take_ (i := 8) (v := ?_) 67 rfl rfl (by kernel_rfl) (by kernel_rfl) (by kernel_rfl) (fun _ _ _ h => h) (Or.inl ⟨by rfl, ?_⟩) (by assumption) ?_
      rotate_left
      · (intro wS hSw; (try dsimp only at hSw); go_simp; try with_reducible rfl)
      simp only [Act.put, List.setIfInBounds_toArray, List.set_cons_zero, List.set_cons_succ]
      refine take_ (i := 9) (v := ?_) 68 rfl rfl (by kernel_rfl) (by kernel_rfl) (by kernel_rfl) (fun _ _ _ h => h) (Or.inl ⟨by rfl, ?_⟩) (by assumption) ?_
      rotate_left
      · (intro wS hSw; (try dsimp only at hSw); go_simp; try with_reducible rfl)
      simp only [Act.put, List.setIfInBounds_toArray, List.set_cons_zero, List.set_cons_succ]
      refine one_ (i := 2) _ (by kernel_rfl) rfl (fun K hK => ?_)
      go_simp
      refine (appnum_nil w5.drew q 4 (by omega) (by omega)).mono ?_
      rintro e w7 ⟨v7, rfl, ho7, hb7⟩
      have O7 := Lib.hid ho7
      have B7 : Hid (Below w5.heap.size w5 w7) := (Below.refl _ _).drew.trans hb7
      have W7 : Hid (Below w.heap.size w w7) := (BB.out.trans (B5.out.mono BB.out.size)).trans (B7.out.mono (Nat.le_trans BB.out.size B5.out.size))
      have BD7 : Hid (Bts w7 (some ⟨g, 0, none⟩) 508 (bodyB sz h parts)) := (BD.out.under B5.out).under B7.out
      have k1 : w7.cell? ⟨b, 1, none⟩ = some (.int .i64 (h : Int)) := (B7.out.cell (p := ⟨b, 1, none⟩) (block_lt g1)).trans g1
      obtain ⟨A7, c7, rfl, _⟩ := ho7.any
      clear ho7 hb7 hHeld
      go_wp2_with fail
      refine hK.out _ _ k1 (fun hHeld => ?_)
      clear hK K
      refine one_ (i := 4) _ (by kernel_rfl) rfl (fun K hK => ?_)
      rw [if_pos (by kernel_rfl)]
      refine wp_append_bts byteT (.tmp 61) (.tmp 62) rfl w.heap.size _ _ rfl (OwnB.base_ O7.out (Nat.le_trans BB.out.size B5.out.size)) (some ⟨g, 0, none⟩) 508 512 _ rfl BD7.out (by rw [num_length]; omega) W7.out.size ?_
      intro v8 w8 ho8 hg8 _
      obtain ⟨A8, c8, rfl, _⟩ := ho8.any
      have O8 := Lib.hid ho8
      have W8 : Hid (Below w.heap.size w w8) := (OwnB.base_ O7.out (Nat.le_trans BB.out.size B5.out.size)).grown W7.out hg8 W7.out.size
      have l1 : w8.cell? ⟨b, 1, none⟩ = some (.int .i64 (h : Int)) := (HB.out.below W8.out HB.out.lt).cell 1
      clear ho8 hg8
      go_simp
      refine hK.out _ _ l1 (fun hHeld => ?_)
      clear hK K
      refine take_ (i := 10) (v := ?_) 2 rfl rfl (by kernel_rfl) (by kernel_rfl) (by kernel_rfl) (fun _ _ _ h => h) (Or.inl ⟨by rfl, ?_⟩) (by assumption) ?_
      rotate_left
      · (intro wS hSw; (try dsimp only at hSw); go_simp; try with_reducible rfl)
      simp only [Act.put, List.setIfInBounds_toArray, List.set_cons_zero, List.set_cons_succ]
      refine take_ (i := 11) (v := ?_) 3 rfl rfl (by kernel_rfl) (by kernel_rfl) (by kernel_rfl) (fun _ _ _ h => h) (Or.inl ⟨by rfl, ?_⟩) (by assumption) ?_
      rotate_left
      · (intro wS hSw; (try dsimp only at hSw); go_simp; try with_reducible rfl)
      simp only [Act.put, List.setIfInBounds_toArray, List.set_cons_zero, List.set_cons_succ]
      refine wpAnyH_done (by kernel_rfl) ?_ _
      refine NoPanic.normal ?_
      go_wp2_with fail
      go_ret2
      exact ⟨_, rfl, by rw [PQ.out]; have o8 := O8.out; rw [List.length_append] at o8; exact o8, W8.out⟩
end Go.Proofs.Ytlofpbmceipkkaa
