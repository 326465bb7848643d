/-
  blob: fill: copy of a long text onto a block.
-/
import Derived.Test.YtlofpbmceipkkaaM23
namespace Go.Proofs.Ytlofpbmceipkkaa
open Go.RowKit Wal Blob

theorem pad_full {l : List Nat} (h : l.length = 512) : pad l = l := by
  unfold pad
  rw [h]
  simp
set_option maxRecDepth 100000 in
theorem run_copy_long (w : World) (g c : Nat) (l : List Nat) (hb : ∀ x ∈ l, x < 256) (h : Tld w g []) (ty : TypeId) :
    (Builtin.copy_ #[45, 9] ty #[.slice (some ⟨g, 0, none⟩) 512 c, .string (strB l)]).run Try.prog w = .ok (goInt (Nat.min l.length 512)) (w.setRow g ((pad (l.take 512)).map u8v).toArray) := by
  obtain ⟨i, hi, _, hi1, _⟩ := info_parts info5
  have hsz : (strB l).size = l.length := strB_size l
  have hbc : (strB l).data.toList.map (fun b : UInt8 => Value.int IntKind.u8 (b.toNat : Int)) = l.map u8v := byteCells_strB hb
  have htk : List.take (Nat.min l.length 512) (l.map u8v) = (l.take 512).map u8v := by
    rw [← List.map_take]
    congr 1
    rcases Nat.le_total l.length 512 with c | c
    · rw [show Nat.min l.length 512 = l.length from Nat.min_eq_left c, List.take_of_length_le (Nat.le_refl _), List.take_of_length_le c]
    · rw [show Nat.min l.length 512 = 512 from Nat.min_eq_right c]
  have hlen : ((l.take 512).map u8v).length ≤ 512 := by rw [List.length_map, List.length_take]; omega
  have hst := run_storeCells_at Try.prog g 0 5 ((l.take 512).map u8v) 0 _ w h.held (by simp [pad_length (l := []) (by simp)]; omega) (fun v hv => by
    obtain ⟨x, _, rfl⟩ := List.mem_map.1 hv
    rfl)
  simp [Builtin.copy_, run_underlying Try.underlying45, Builtin.lenOf, Builtin.firstCells, sizeOf, typeInfo, hi, hsz, hbc, htk]
  rw [← List.map_take, hst]
  simp only [Result.andThen]
  have e : (((pad []).map u8v).toArray.toList.take (0 + 0) ++ (l.take 512).map u8v ++ ((pad []).map u8v).toArray.toList.drop (0 + 0 + ((l.take 512).map u8v).length)) = (pad (l.take 512)).map u8v := by
    unfold pad
    rw [List.nil_append, List.map_append, List.length_nil, List.map_replicate, List.map_replicate, Nat.add_zero, List.take_zero, List.nil_append, Nat.zero_add, List.drop_replicate, List.length_map, Nat.sub_zero]
  rw [e]
theorem nums_drop_ (s : ByteArray) (a : Nat) : nums (s.extract a s.size) = (nums s).drop a := by
  unfold nums
  rw [ByteArray.data_extract, Array.toList_extract, List.extract_eq_take_drop, List.map_take, List.map_drop]
  rw [List.take_of_length_le]
  rw [List.length_drop, List.length_map, Array.length_toList]
  exact Nat.le_refl _
theorem strB_drop (l : List Nat) (hb : ∀ x ∈ l, x < 256) (a : Nat) : (strB l).extract a l.length = strB (l.drop a) := by
  have h1 := nums_drop_ (strB l) a
  rw [strB_size, nums_strB hb] at h1
  rw [← h1, strB_nums]
theorem make_full (u : World) : (Instr.makeSlice 45 (.int .i64 512) (.int .i64 512)).run Try.prog u = .ok (.slice (some ⟨u.heap.size, 0, none⟩) 512 512) (u.alloc (.cells ((pad []).map u8v).toArray 5)) := by
  obtain ⟨i0, hi, hz0, hz1, hz2⟩ := info_parts info5
  have h := run_make (P := Try.prog) u 45 5 i0 (.int .u8 0) Try.underlying45 hi hz0 .i64 .i64 512 512 (by omega) (by omega) (by rw [hz2]; decide) (by decide)
  have e2 : madeCells #[.int .u8 0] 512 = ((pad []).map u8v).toArray := by
    apply Array.toList_inj.1
    rw [toList_madeCells_one]
    unfold pad
    rw [List.nil_append, List.map_replicate, List.toList_toArray]
    rfl
  rw [← e2]
  simpa [hz1, Value.cells] using h
/-- Parts laid one behind the other. -/
def fW (f : Nat → Option KB) (parts l : List Nat) (k : Nat) : Nat → Option KB := (List.range k).foldl (fun g i => put g (parts.getD i 0 - 1) (some (pad ((l.drop (512 * i)).take 512), false))) f
theorem fW_succ (f : Nat → Option KB) (parts l : List Nat) (k : Nat) : fW f parts l (k + 1) = put (fW f parts l k) (parts.getD k 0 - 1) (some (pad ((l.drop (512 * k)).take 512), false)) := by
  unfold fW
  rw [List.range_succ, List.foldl_append]
  rfl
theorem getD_of {l : List Nat} {i : Nat} (h : i < l.length) : l.getD i 0 = l[i] := by rw [List.getD_eq_getElem?_getD, List.getElem?_eq_getElem h]; rfl
theorem fW_far (f : Nat → Option KB) (parts l : List Nat) (h1 : ∀ v ∈ parts, 1 ≤ v) (j : Nat) : ∀ k, k ≤ parts.length → j + 1 ∉ parts.take k → fW f parts l k j = f j
  | 0, _, _ => rfl
  | k + 1, hk, hj => by
    rw [fW_succ]
    rw [List.take_succ_eq_append_getElem (by omega)] at hj
    simp only [List.mem_append, List.mem_cons, List.not_mem_nil, or_false, not_or] at hj
    have := h1 _ (List.getElem_mem (show k < parts.length by omega))
    unfold put
    rw [getD_of (by omega), if_neg (by omega)]
    exact fW_far f parts l h1 j k (by omega) hj.1
theorem fW_at (f : Nat → Option KB) (parts l : List Nat) (h1 : ∀ v ∈ parts, 1 ≤ v) (hd : parts.Nodup) (i : Nat) (hi : i < parts.length) : ∀ k, i < k → k ≤ parts.length → fW f parts l k (parts[i] - 1) = some (pad ((l.drop (512 * i)).take 512), false)
  | 0, h, _ => by omega
  | k + 1, h, hk => by
    rw [fW_succ, getD_of (by omega)]
    unfold put
    by_cases e : i = k
    · subst e
      rw [if_pos rfl]
    · have n1 := h1 _ (List.getElem_mem hi)
      have n2 := h1 _ (List.getElem_mem (show k < parts.length by omega))
      have ne : parts[i] ≠ parts[k] := fun e' => by
        rcases Nat.lt_or_gt_of_ne e with c | c
        · exact List.pairwise_iff_getElem.1 hd i k _ _ c e'
        · exact List.pairwise_iff_getElem.1 hd k i _ _ c e'.symm
      rw [if_neg (by omega)]
      exact fW_at f parts l h1 hd i hi k (by omega) (by omega)
set_option maxRecDepth 100000 in
set_option maxHeartbeats 3200000 in
theorem fill_any (B : Nat) (w : World) (p n : Nat) (f : Nat → Option KB) (hm : MemAt B w p n f) (h : Nat) (parts l : List Nat) (hf : Fine h parts) (h1 : 1 ≤ l.length) (h2 : l.length ≤ 49152) (hc : parts.length = (l.length + 511) / 512) (hb : ∀ x ∈ l, x < 256) (hx : ∀ v ∈ h :: parts, ∃ y, f (v - 1) = some (y, false)) (A : Option Addr) (c : Nat) (hi : IntsAt w A parts) :
    Calls Try.prog 45 #[blobV (sto p) h l.length A parts.length c, strV l] w fun e w' => e = .returned (.tuple #[]) ∧ MemAt B w' p n (fW (put f (h - 1) (some (packB l.length h parts, false))) parts l parts.length) ∧ Kp B w w' := by
  have few := hf.few
  have hpos := hf.pos
  have HF := Lib.hid hf
  have HX := Lib.hid hx
  have HBY := Lib.hid hb
  have HI := Lib.hid hi
  have HC := Lib.hid hc
  obtain ⟨w1, hw1⟩ : ∃ w1, w1 = w.alloc (.cells (blobCs (sto p) h l.length A parts.length c) 61) := ⟨_, rfl⟩
  obtain ⟨b, hbb⟩ : ∃ b, b = w.heap.size := ⟨_, rfl⟩
  have B1 : Hid (Below w.heap.size w w1) := by rw [hw1]; exact (Below.refl _ _).alloc (Nat.le_refl _) _
  have H1 : Hid (Held w1 b 61 (blobCs (sto p) h l.length A parts.length c)) := by rw [hw1]; exact Held.new _ _ _ hbb
  have M1 := Lib.hid (hm.under B1.out)
  have PK := Lib.hid (pack_any w1 b (sto p) l.length h parts A c H1.out (hi.below B1.out) hf h2)
  have HW := Lib.hid hw1
  have HB := Lib.hid hbb
  clear hm hf hx hb hi hc hw1 hbb
  obtain ⟨sv, hsv⟩ : ∃ sv, sv = sto p := ⟨_, rfl⟩
  have HS := Lib.hid hsv
  unfold blobV blobCs at *
  rw [← hsv] at HW H1 ⊢
  unfold sto at hsv
  subst hsv
  unfold strV
  go_enter Try.func45, Try.ntmps45
  go_upto_region 1 with fail
  rw [← HW.out, ← HB.out]
  clear HW
  go_wp2_with fail
  refine PK.out.mono ?_
  rintro e w2 ⟨v2, rfl, ho2, hb2⟩
  obtain ⟨g2, cap2, rfl, hg2, _, hbt2, _, _⟩ := ho2.form' (packB_length l.length h parts few) (by omega)
  have B2 : Hid (Below w.heap.size w w2) := B1.out.trans (hb2.mono B1.out.size)
  have H2 := Lib.hid (H1.out.below hb2 H1.out.lt)
  have M2 := Lib.hid (M1.out.under hb2)
  obtain ⟨y0, hy0⟩ := HX.out h (by simp)
  have WH := write_yes B w2 p n f M2.out (h - 1) y0 hy0 (some ⟨g2, 0, none⟩) 512 cap2 (packB l.length h parts) hbt2 (Nat.le_refl _)
  rw [pad_full (packB_length l.length h parts few), show ((h - 1 : Nat) : Int) + 1 = (h : Int) by omega] at WH
  have WH2 := Lib.hid WH
  have c0 : w2.cell? ⟨b, 0, none⟩ = some (.iface 24 (.pointer (some ⟨p, 0, none⟩))) := H2.out.cell 0
  have c1 : w2.cell? ⟨b, 1, none⟩ = some (.int .i64 (h : Int)) := H2.out.cell 1
  clear PK ho2 hb2 hg2 hbt2 hy0 WH
  go_wp2_with fail
  rw [meets_write]
  case hn => kernel_rfl
  go_simp
  refine WH2.out.mono ?_
  rintro e w3 ⟨rfl, m3, k3⟩
  have M3 := Lib.hid m3
  have K3 := Lib.hid k3
  have H3 := Lib.hid (k3.held H2.out (by decide) (by decide))
  have HD := Lib.hid (heed_ok w3)
  have c3 : w3.cell? ⟨b, 3, none⟩ = some (.slice A parts.length c) := H3.out.cell 3
  clear m3 k3 WH2 c0 c1
  go_wp2_with fail
  refine HD.out.mono ?_
  rintro e w4 ⟨rfl, rfl⟩
  clear HD
  go_wp2_with fail
  obtain ⟨f1, hf1⟩ : ∃ f1, f1 = put f (h - 1) (some (packB l.length h parts, false)) := ⟨_, rfl⟩
  rw [← hf1] at M3
  have HF1 := Lib.hid hf1
  have NH : Hid (∀ v ∈ parts, 1 ≤ v ∧ v ≤ 4096 ∧ ∃ y, f1 (v - 1) = some (y, false)) := fun v hv => by
    have g1 := (List.pairwise_cons.1 HF.out.rise).1 v hv
    obtain ⟨y, hy⟩ := HX.out v (by simp [hv])
    refine ⟨by omega, HF.out.most v (by simp [hv]), y, ?_⟩
    rw [hf1]
    unfold put
    rw [if_neg (by have := HF.out.pos; omega)]
    exact hy
  have ND : Hid (parts.Nodup) := (List.pairwise_cons.1 HF.out.rise).2.imp (fun {a b} (h : a < b) => Nat.ne_of_lt h)
  have WK : Hid (Kp B w w3) := (Kp.under B2.out).trans K3.out
  clear hf1
  go_loopw [26] (fun i wr => ∃ k : Nat, k ≤ parts.length ∧ i = .int .i64 k ∧ Hid (MemAt B wr p n (fW f1 parts l k) ∧ Kp B w wr ∧ Held wr b 61 #[.iface 24 (.pointer (some ⟨p, 0, none⟩)), .int .i64 (h : Int), .int .i64 (l.length : Int), .slice A parts.length c])) (fun i _ => parts.length - (intOf i).toNat)
  case atStart => exact ⟨0, by omega, rfl, M3.out, WK.out, H3.out⟩
  case round =>
    obtain ⟨k, hk, rfl, G⟩ := hrel
    by_cases hlt : k < parts.length
    · obtain ⟨g, off, rfl, hcc⟩ := (HI.out.kp G.out.2.1).cell hlt
      have ev : parts.getD k 0 = parts[k] := getD_of hlt
      obtain ⟨v1, _, y, hy⟩ := NH.out parts[k] (List.getElem_mem hlt)
      have nd : parts[k] ∉ parts.take k := by
        have h1 : (parts.take (k + 1)).Nodup := ND.out.sublist (List.take_sublist _ _)
        rw [List.take_succ_eq_append_getElem hlt] at h1
        exact fun hm => (List.nodup_append.1 h1).2.2 _ hm _ (by simp) rfl
      have hy2 : fW f1 parts l k (parts[k] - 1) = some (y, false) := by
        rw [fW_far f1 parts l (fun v hv => (NH.out v hv).1) _ k hk (by rw [show parts[k] - 1 + 1 = parts[k] by omega]; exact nd)]
        exact hy
      have SS := Lib.hid (fW_succ f1 parts l k)
      rw [ev] at hcc SS
      generalize parts[k] = v at *
      have c0 : wr.cell? ⟨b, 0, none⟩ = some (.iface 24 (.pointer (some ⟨p, 0, none⟩))) := G.out.2.2.cell 0
      have lk : (k : Int) < (parts.length : Int) := by omega
      have kl : 512 * k ≤ l.length := by have := HC.out; omega
      have kli : (k : Int) * 512 ≤ (l.length : Int) := by omega
      have k9 : k ≤ 96 := by omega
      clear ev nd hy
      have mk := make_full
      obtain ⟨w5, hw5⟩ : ∃ w5, w5 = wr.alloc (.cells ((pad []).map u8v).toArray 5) := ⟨_, rfl⟩
      obtain ⟨g5, hg5⟩ : ∃ g5, g5 = wr.heap.size := ⟨_, rfl⟩
      have B5 : Hid (Below wr.heap.size wr w5) := by rw [hw5]; exact (Below.refl _ _).alloc (Nat.le_refl _) _
      have T5 : Hid (Tld w5 g5 []) := by rw [hw5]; exact ⟨Held.new _ _ _ hg5, by simp, by simp⟩
      have HW5 := Lib.hid hw5
      have HG5 := Lib.hid hg5
      clear hw5 hg5
      go_upto_region 9 with fail
      rw [← HW5.out, ← HG5.out]
      clear HW5 mk
      have cp := fun ty => run_copy_long w5 g5 512 (l.drop (512 * k)) (fun x hx => HBY.out x (List.mem_of_mem_drop hx)) T5.out ty
      have sd := strB_drop l HBY.out (512 * k)
      have km : (k : Int) * 512 = ((512 * k : Nat) : Int) := by omega
      have sz := strB_size l
      generalize hkk : 512 * k = kk at *
      obtain ⟨X, hX⟩ : ∃ X, X = (l.drop kk).take 512 := ⟨_, rfl⟩
      have XL : Hid (X.length ≤ 512 ∧ ∀ x ∈ X, x < 256) := ⟨by rw [hX, List.length_take]; omega, fun x hx => HBY.out x (List.mem_of_mem_drop (List.mem_of_mem_take (by rw [← hX]; exact hx)))⟩
      rw [← hX] at cp SS
      obtain ⟨w6, hw6⟩ : ∃ w6, w6 = w5.setRow g5 ((pad X).map u8v).toArray := ⟨_, rfl⟩
      have T6 : Hid (Tld w6 g5 X) := by rw [hw6]; exact ⟨setRow_heap w5 g5 _ _ _ _ T5.out.held, XL.out.2, XL.out.1⟩
      have B6 : Hid (Below wr.heap.size wr w6) := B5.out.trans ⟨by rw [hw6]; rfl, by rw [hw6]; rfl, by rw [hw6]; rfl, by rw [hw6]; simp, fun i hi => by rw [hw6]; exact setRow_other w5 g5 i _ (by have := HG5.out; omega)⟩
      have c6 : w6.cell? ⟨b, 0, none⟩ = some (.iface 24 (.pointer (some ⟨p, 0, none⟩))) := (B6.out.cell (p := ⟨b, 0, none⟩) (block_lt c0)).trans c0
      have HW6 := Lib.hid hw6
      have PL : (pad X).length = 512 := pad_length XL.out.1
      have BT := T6.out.bts (n := 512) (Nat.le_refl _)
      rw [List.take_of_length_le (by rw [PL]; exact Nat.le_refl _)] at BT
      have WK2 := write_yes B w6 p n (fW f1 parts l k) (G.out.1.under B6.out) (v - 1) y hy2 (some ⟨g5, 0, none⟩) 512 512 (pad X) BT (Nat.le_refl _)
      rw [pad_full PL, show ((v - 1 : Nat) : Int) + 1 = (v : Int) by omega, ← SS.out] at WK2
      have WR := Lib.hid WK2
      have S6 := Lib.hid SS.out
      clear hX hw6 BT WK2 PL SS
      go_upto_region 10 with fail
      rw [← HW6.out]
      clear HW6 cp sd km sz hcc
      go_wp2_with fail
      rw [meets_write]
      case hn => kernel_rfl
      go_simp
      refine WR.out.mono ?_
      rintro e w7 ⟨rfl, m7, k7⟩
      have F : Hid (MemAt B w7 p n (fW f1 parts l (k + 1)) ∧ Kp B w w7 ∧ Held w7 b 61 #[.iface 24 (.pointer (some ⟨p, 0, none⟩)), .int .i64 (h : Int), .int .i64 (l.length : Int), .slice (some ⟨g, off, none⟩) parts.length c]) :=
        ⟨m7, (G.out.2.1.trans (Kp.under B6.out)).trans k7, k7.held (G.out.2.2.below B6.out G.out.2.2.lt) (by decide) (by decide)⟩
      have HD := Lib.hid (heed_ok w7)
      clear m7 k7 WR
      go_wp2_with fail
      refine HD.out.mono ?_
      rintro e w8 ⟨rfl, rfl⟩
      clear HD
      go_wp2_with fail
      go_roundw
      case rel => exact ⟨k + 1, by omega, by go_num, F⟩
      case measure => simp [intOf]; omega
    · obtain rfl : k = parts.length := by omega
      go_wp2_with fail
      go_end0
      have g := G.out
      rw [HF1.out] at g
      exact ⟨rfl, g.1, g.2.1⟩
end Go.Proofs.Ytlofpbmceipkkaa
