/-
  pager: the contracts of unpack, take and Open. · pager: the contract of take. · pager: the contract of Open, where a pager lies on the disk.
-/
import Derived.Test.YtkajneeihhobhaaGreatMPgO
import Derived.Test.YtkajneeihhobhaaGreatMRows
namespace Go.Proofs.YtkajneeihhobhaaGreat
open Go.RowKit Go.Maps Wal Pgr

theorem i64_or_nat (a b : Nat) (ha : a < 4611686018427387904) (hb : b < 4611686018427387904) : bits .or .i64 (a : Int) (b : Int) = ((a ||| b : Nat) : Int) := by
  have hx : a ||| b < 2 ^ 62 := Nat.or_lt_two_pow (by omega) (by omega)
  show IntKind.i64.wrap ((BitVec.ofInt 64 (a : Int) ||| BitVec.ofInt 64 (b : Int)).toNat : Int) = _
  rw [BitVec.toNat_or, ofInt_u64 a (by omega), ofInt_u64 b (by omega), IntKind.wrap_i64]
  omega
theorem strB_at {L : List Nat} (h8 : ∀ x ∈ L, x < 256) {k : Nat} (hk : k < (strB L).size) : ((strB L)[k]'hk).toNat = L.getD k 0 := by
  have h1 := nums_strB h8
  have h2 := congrArg (fun z : List Nat => z[k]?) h1
  unfold nums at h2
  have h3 : k < (strB L).data.toList.length := by rw [Array.length_toList]; exact hk
  simp only [List.getElem?_map, List.getElem?_eq_getElem h3, Option.map_some] at h2
  rw [List.getD_eq_getElem?_getD, ← h2]
  rfl
theorem num4_at (b k : Nat) (hk : k < 4) : (num 4 b).getD k 0 = b / 256 ^ k % 256 := by
  rw [num4]
  have : k = 0 ∨ k = 1 ∨ k = 2 ∨ k = 3 := by omega
  rcases this with rfl | rfl | rfl | rfl <;> simp
theorem or_round {b k y : Nat} (hk : k < 4) (hy : y = b / 256 ^ k % 256) : bits .or .i64 ((b % 256 ^ k : Nat) : Int) (wrap64 (wrap64 (y : Int) * 2 ^ (8 * k))) = ((b % 256 ^ (k + 1) : Nat) : Int) := by
  have hy8 : y < 256 := by omega
  have hp : 256 ^ k ≤ 256 ^ 3 := Nat.pow_le_pow_right (by omega) (by omega)
  have h3 : (256 : Nat) ^ 3 = 16777216 := by decide
  have hx : b % 256 ^ k < 256 ^ k := Nat.mod_lt _ (Nat.pow_pos (by omega))
  have w1 : wrap64 (y : Int) = (y : Int) := by unfold wrap64; omega
  have e2 : (2 : Int) ^ (8 * k) = ((256 ^ k : Nat) : Int) := by rw [Int.pow_mul]; norm_cast
  have e3 : (y : Int) * ((256 ^ k : Nat) : Int) = ((y * 256 ^ k : Nat) : Int) := by rw [Int.natCast_mul]
  have hm : y * 256 ^ k ≤ 255 * 256 ^ k := Nat.mul_le_mul_right _ (by omega)
  have w2 : wrap64 ((y * 256 ^ k : Nat) : Int) = ((y * 256 ^ k : Nat) : Int) := by
    have : y * 256 ^ k ≤ 4294967296 := by omega
    generalize y * 256 ^ k = z at this ⊢
    unfold wrap64
    omega
  rw [w1, e2, e3, w2, i64_or_nat _ _ (by omega) (by omega), or_step hx, Nat.mod_pow_succ, hy, Nat.mul_comm (256 ^ k)]
theorem strB_drop (a b : List Nat) {n k : Nat} (hn : a.length = k) (hs : (strB (a ++ b)).size = n) : (strB (a ++ b)).extract k n = strB b := by
  rw [strB_app]
  have h1 : (strB a).size = k := by rw [strB_size, hn]
  have h2 : (strB a ++ strB b).size = n := by rw [← strB_app]; exact hs
  rw [← h2, ← h1, ByteArray.size_append]
  apply ByteArray.ext
  rw [ByteArray.data_extract, ByteArray.data_append]
  simp only [ByteArray.size]
  apply Array.toList_inj.1
  simp only [Array.toList_append, Array.toList_extract, List.extract_eq_take_drop, Nat.add_sub_cancel_left]
  rw [List.drop_left' Array.length_toList, List.take_of_length_le (Nat.le_of_eq Array.length_toList)]
theorem res_cell {P : Program} {f : Func} (tm : Array Value) (w : World) (i j T : Nat) (x v : Value) (p : Addr) (hf : f.results = #[.tmp i, .cell j T]) (h2 : tm.getD i undef = x) (h3 : tm.getD j undef = .pointer (some p)) (lv : (loadVar T p).run P w = .ok v w) :
    (results f tm).run P w = .ok (.tuple #[x, v]) w := by
  unfold results
  rw [hf]
  rw [Array.getD_eq_getD_getElem?] at h2 h3
  simp [h2, h3, asAddr, lv]
/-- copy(held[:], text): the whole of a block. -/
theorem copy_text (w : World) (q : Nat) (l : List Nat) (ty : TypeId) (hl : Blk l) (h : w.heap[q]? = some (.cells ((sec []).map u8v).toArray 99)) :
    (Builtin.copy_ #[56, 9] ty #[.slice (some ⟨q, 0, none⟩) 512 512, .string (strB l)]).run Tryz.prog w = .ok (goInt 512) (w.setRow q (l.map u8v).toArray) := by
  obtain ⟨i, hi, _, hi1, _⟩ := info_parts info5
  have hs : (Tryz.prog.info? 5).map (·.size) = some 1 := by rw [hi]; simp [hi1]
  have hsz : (strB l).size = 512 := by rw [strB_size, hl.len]
  have h1 := Lib.run_copy_row_string (P := Tryz.prog) w 56 9 ty 5 q 0 512 512 (strB l) _ _ Tryz.underlying56 hs h (by omega) (by simp [sec_length, hsz])
  rw [byteCells_strB hl.bytes, hsz] at h1
  rw [h1, List.take_zero, List.nil_append, List.drop_eq_nil_of_le (by simp [sec_length]), List.append_nil]
  rfl
set_option maxRecDepth 100000 in
set_option maxHeartbeats 1600000 in
theorem punpack_any (w : World) (b : Nat) (l : List Nat) (hb : b ≤ 4096) (hl : Blk l) :
    Calls Tryz.prog 73 #[.string (strB (recB b l))] w fun e w' => e = .returned (.tuple #[.int .i64 (b : Int), blkV l]) ∧ Below w.heap.size w w' := by
  have hsz : (strB (recB b l)).size = 516 := by rw [strB_size, recB_length hl]
  have hat : ∀ k (hk : k < (strB (recB b l)).size), k < 4 → ((strB (recB b l))[k]'hk).toNat = b / 256 ^ k % 256 := fun k hk h4 => by
    rw [strB_at (recB_bytes hl), ← num4_at b k h4]
    unfold recB
    rw [List.getD_eq_getElem?_getD, List.getD_eq_getElem?_getD, List.getElem?_append_left (by rw [num_length]; exact h4)]
  obtain ⟨S, hS⟩ : ∃ S, S = strB (recB b l) := ⟨_, rfl⟩
  have HT : Hid (S.extract 4 516 = strB l) := by
    subst hS
    exact strB_drop _ _ (num_length 4 b) hsz
  have HL := Lib.hid hl
  rw [← hS] at hsz ⊢
  have HA : Hid (∀ k (hk : k < S.size), k < 4 → (S[k]'hk).toNat = b / 256 ^ k % 256) := fun k hk h4 => by
    subst hS
    exact hat k hk h4
  obtain ⟨hz, hi⟩ := zero_of_info zeroBlk
  unfold blkV at hz
  clear hS hi hat
  go_enter Tryz.func73, Tryz.ntmps73
  go_wp2_with fail
  go_loop [4, 7] (fun x i => ∃ k : Nat, k ≤ 4 ∧ i = .int .i64 (k : Nat) ∧ x = .int .i64 ((b % 256 ^ k : Nat) : Int)) (fun _ i => 4 - (intOf i).toNat)
  case atStart => exact ⟨0, by omega, rfl, by rw [Nat.pow_zero, Nat.mod_one]; rfl⟩
  case round =>
    obtain ⟨k, hk, rfl, rfl⟩ := hrel
    by_cases hlt : k < 4
    · have hk' : (k : Int) < 4 := by omega
      have hkz : k < S.size := by rw [hsz]; omega
      have OR := Lib.hid (or_round hlt (HA.out k hkz hlt))
      obtain ⟨x, hx⟩ : ∃ x, x = b % 256 ^ k := ⟨_, rfl⟩
      rw [← hx] at OR ⊢
      clear hx
      go_wp2_with fail
      go_round
      case rel => exact ⟨k + 1, by omega, by go_num, congrArg (Value.int .i64) OR.out⟩
      case measure => simp [intOf]; omega
    · obtain rfl : k = 4 := by omega
      have eb : b % 256 ^ 4 = b := Nat.mod_eq_of_lt (by have : (256 : Nat) ^ 4 = 4294967296 := by decide
                                                        omega)
      rw [eb]
      clear eb
      go_upto_region 8 with fail
      obtain ⟨w1, hw1⟩ : ∃ w1, w1 = w.alloc (.cells ((sec []).map u8v).toArray 99) := ⟨_, rfl⟩
      obtain ⟨q, hq⟩ : ∃ q, q = w.heap.size := ⟨_, rfl⟩
      obtain ⟨r, hr⟩ : ∃ r, r = w1.heap.size := ⟨_, rfl⟩
      have er : w.heap.size + 1 = r := by rw [hr, hw1]; exact (Array.size_push _).symm
      have NQ : Hid (q + 1 = r ∧ w.heap.size = q) := by show _ ∧ _; omega
      rw [← hw1, er, ← hq]
      obtain ⟨w2, hw2⟩ : ∃ w2, w2 = w1.alloc (.cells ((sec []).map u8v).toArray 99) := ⟨_, rfl⟩
      have R2 : Hid (w2.drew.heap[r]? = some (.cells ((sec []).map u8v).toArray 99)) := by rw [hw2, hr]; exact heap_alloc_last w1 _
      have Q2 : Hid (w2.drew.heap[q]? = some (.cells ((sec []).map u8v).toArray 99)) := by
        have h1 := heap_alloc_last w (.cells ((sec []).map u8v).toArray 99)
        rw [hw2, hq]
        refine (((Below.refl w1.heap.size w1).alloc (Nat.le_refl _) _).block w.heap.size (by rw [← hr, ← er]; omega)).trans ?_
        rw [hw1]
        exact h1
      have B2 : Hid (Below w.heap.size w w2) := by
        have B1 : Below w.heap.size w w1 := by rw [hw1]; exact (Below.refl _ _).alloc (Nat.le_refl _) _
        rw [hw2]
        exact B1.alloc (by rw [← hr, ← er]; omega) _
      rw [← hw2]
      have cp := fun ty => copy_text w2.drew r l ty HL.out R2.out
      rw [← HT.out] at cp
      have hz2 : (Tryz.prog.info? 99).map (·.size) = some 512 := (zero_of_info zeroBlk).2
      clear hw1 hw2 hq hr hz
      go_region
      obtain ⟨w3, hw3⟩ : ∃ w3, w3 = w2.drew.setRow r (l.map u8v).toArray := ⟨_, rfl⟩
      have nqr : q ≠ r := by have := NQ.out; omega
      have R3 : w3.heap[r]? = some (.cells (l.map u8v).toArray 99) := by rw [hw3]; exact setRow_heap _ _ _ _ _ _ R2.out
      have Q3 : Hid (w3.heap[q]? = some (.cells ((sec []).map u8v).toArray 99)) := by rw [hw3]; exact (setRow_other _ _ _ _ nqr).trans Q2.out
      have B3 : Hid (Below w.heap.size w w3) := by
        rw [hw3]
        exact ⟨B2.out.os, B2.out.tape, B2.out.output, by rw [setRow_size]; exact B2.out.size, fun k hk => (setRow_other _ _ _ _ (by have := NQ.out; omega)).trans (B2.out.block k hk)⟩
      have BQ : Hid (w.heap.size ≤ q) := by have := NQ.out; show _ ≤ _; omega
      rw [← hw3]
      have ld : w3.rangeAt r 0 (l.map u8v) := fun j v hv => by
        show w3.cell? _ = _
        unfold World.cell?
        simp only [Nat.zero_add]
        rw [R3]
        simpa using hv
      have st := run_storeCells_at Tryz.prog q 0 99 (l.map u8v) 0 _ w3.drew Q3.out (by simp [sec_length, HL.out.len]) (fun v hv => by obtain ⟨x, _, rfl⟩ := List.mem_map.1 hv; rfl)
      have ec : (List.take (0 + 0) ((sec []).map u8v).toArray.toList ++ l.map u8v ++ List.drop (0 + 0 + (l.map u8v).length) ((sec []).map u8v).toArray.toList).toArray = (l.map u8v).toArray := by
        rw [List.take_zero, List.nil_append, List.drop_eq_nil_of_le (by simp [sec_length, HL.out.len]), List.append_nil]
      rw [ec] at st
      have hsz : (Tryz.prog.info? 99).map (·.size) = some (l.map u8v).length := by rw [List.length_map, HL.out.len]; exact hz2
      have es : (l.map u8v).toArray.toList = l.map u8v := rfl
      have hlen := HL.out.len
      clear ec cp hw3 R3
      go_upto_region 9 with fail
      refine wp_region_noPanic ?_
      refine wp_region_held_drew (S := fun w' => w'.rangeAt r 0 (l.map u8v)) (by kernel_rfl) ld (fun hHeld => ?_)
      refine take_ (i := 0) (v := ?_) 24 rfl rfl (by kernel_rfl) (by kernel_rfl) (by kernel_rfl) (fun _ _ _ h => h) (Or.inl ⟨by rfl, ?_⟩) (by assumption) ?_
      rotate_left
      · (intro wS hSw; (try dsimp only at hSw); go_simp; try with_reducible rfl)
      simp only [Act.put, List.setIfInBounds_toArray, List.set_cons_zero, List.set_cons_succ]
      refine take_ (i := 1) (v := .agg (l.map u8v).toArray) 25 rfl rfl (by kernel_rfl) (by kernel_rfl) (by kernel_rfl) (fun _ _ _ h => h) (yieldsIf_load_mid (by rfl) _ _ rfl r 0 rfl _ _ (fun w h => h) Tryz.underlying99 rfl hsz) (by assumption) ?_
      simp only [Act.put, List.setIfInBounds_toArray, List.set_cons_zero, List.set_cons_succ]
      refine take_ (i := 2) (v := ?_) 2 rfl rfl (by kernel_rfl) (by kernel_rfl) (by kernel_rfl) (fun _ _ _ h => h) (Or.inl ⟨by rfl, ?_⟩) (by assumption) ?_
      rotate_left
      · (intro wS hSw; (try dsimp only at hSw); go_simp; try with_reducible rfl)
      simp only [Act.put, List.setIfInBounds_toArray, List.set_cons_zero, List.set_cons_succ]
      refine one_ (i := 3) _ (by kernel_rfl) rfl (fun K hK => ?_)
      go_simp
      obtain ⟨w4, hw4⟩ : ∃ w4, w4 = w3.drew.setRow q (l.map u8v).toArray := ⟨_, rfl⟩
      have Q4 : w4.heap[q]? = some (.cells (l.map u8v).toArray 99) := by rw [hw4]; exact setRow_heap _ _ _ _ _ _ Q3.out
      have B4 : Hid (Below w.heap.size w w4) := by
        rw [hw4]
        exact ⟨B3.out.os, B3.out.tape, B3.out.output, by rw [setRow_size]; exact B3.out.size, fun k hk => (setRow_other _ _ _ _ (by have := NQ.out; omega)).trans (B3.out.block k hk)⟩
      have r4 : w4.rangeAt q 0 (l.map u8v) := fun j v hv => by
        show w4.cell? _ = _
        unfold World.cell?
        simp only [Nat.zero_add]
        rw [Q4]
        simpa using hv
      rw [← hw4]
      have ld4 : w4.rangeAt r 0 (l.map u8v) := fun j v hv => by
        rw [hw4, cell_setRow_other _ _ _ _ (by have := NQ.out; show r ≠ q; omega)]
        exact ld j v hv
      clear hw4 st es Q4
      refine hK.out _ _ ld4 (fun hHeld => ?_)
      clear hK K
      refine wpAnyH_done (by kernel_rfl) ?_ _
      refine NoPanic.normal ?_
      go_wp2_with fail
      refine bodyPost_ret (v := .tuple #[.int .i64 (b : Int), blkV l]) ?_ rfl ?_
      · have lv := run_loadVar_mid (P := Tryz.prog) w4 q 0 99 (l.map u8v) _ r4 Tryz.underlying99 rfl hsz
        exact res_cell _ w4 2 3 99 _ _ _ Tryz.results73 rfl rfl lv
      · exact ⟨rfl, B4.out⟩
end Go.Proofs.YtkajneeihhobhaaGreat

namespace Go.Proofs.YtkajneeihhobhaaGreat
open Go.RowKit Go.Maps Wal Pgr

/-- The commit g's first k blocks over f. -/
def takeN (N : Nat) (g f : Com) (k : Nat) : Com := fun b => if b ∈ (dirt N g).take k then g b else f b
theorem takeN_zero (N : Nat) (g f : Com) : takeN N g f 0 = f := by
  funext b
  simp [takeN]
theorem takeN_all {N : Nat} {g : Com} (h : Fine N g) (f : Com) {n : Nat} (hn : n = (dirt N g).length) : takeN N g f n = fun b => (g b).or (f b) := by
  funext b
  unfold takeN
  rw [hn, List.take_length]
  cases hb : g b with
  | none => simp [mem_dirt, hb]
  | some l => rw [if_pos (mem_dirt.2 ⟨(h b l hb).1, by rw [hb]; rfl⟩)]; rfl
theorem takeN_succ {N : Nat} {g f : Com} {k x : Nat} (hx : (dirt N g)[k]? = some x) : takeN N g f (k + 1) = upd (takeN N g f k) x ((g x).getD Z) := by
  funext b
  unfold takeN upd
  rw [List.take_add_one, hx]
  by_cases hb : b = x
  · subst hb
    have h1 := (mem_dirt.1 (List.mem_of_getElem? hx)).2
    obtain ⟨l, hl⟩ := Option.isSome_iff_exists.1 h1
    simp [hl]
  · simp [hb]
theorem dirt_lt {N : Nat} {g : Com} {i j x y : Nat} (h : i < j) (hx : (dirt N g)[i]? = some x) (hy : (dirt N g)[j]? = some y) : x < y := by
  obtain ⟨hi, rfl⟩ := List.getElem?_eq_some_iff.1 hx
  obtain ⟨hj, rfl⟩ := List.getElem?_eq_some_iff.1 hy
  exact List.pairwise_iff_getElem.1 (dirt_rise N g) i j hi hj h
def TakeRes (w : World) (P : PS) (tx : Value) (g : Com) (e : Ending) (w' : World) : Prop :=
  e = .returned (.bool true) ∧ PagAt w' { P with f := fun b => (g b).or (P.f b) } tx ∧ Only [P.am] w w'
set_option maxRecDepth 100000 in
set_option maxHeartbeats 3200000 in
theorem ptake_any (w : World) (P : PS) (tx : Value) (g : Com) (A : Option Addr) (n c : Nat) (h : PagAt w P tx) (hg : Fine P.N g) (hs : Strs w A n ((rows P.N g).map strB)) (hA : 0 < n → ∀ x, A = some x → x.block ≠ P.am) :
    Calls Tryz.prog 54 #[.pointer (some ⟨P.p, 0, none⟩), .slice A n c] w (TakeRes w P tx g) := by
  have hmost := h.most
  have hlen : n = (dirt P.N g).length := by rw [← hs.1, List.length_map, rows, List.length_map]
  have hn4 : n ≤ 4096 := by have := dirt_le P.N g; omega
  have HN := Lib.hid hlen
  have H := Lib.hid h
  have HG := Lib.hid hg
  have HS := Lib.hid hs
  have HA := Lib.hid hA
  have k4 : (n : Int) ≤ 4096 := by omega
  have nw : Hid (P.N ≤ 4096) := by show _ ≤ _; omega
  clear h hg hs hA hlen hmost
  go_enter Tryz.func54, Tryz.ntmps54
  go_wp2_with fail
  go_loopw [5, 12] (fun z iv wr => ∃ (k : Nat) (y : Int), k ≤ n ∧ iv = .int .i64 (k : Nat) ∧ z = .int .i64 y ∧ -1 ≤ y ∧ y ≤ 4096 ∧ (∀ j x, k ≤ j → (dirt P.N g)[j]? = some x → y < (x : Int)) ∧ PagAt wr { P with f := takeN P.N g P.f k } tx ∧ Only [P.am] w wr) (fun _ iv _ => n - (intOf iv).toNat)
  case atStart => exact ⟨0, -1, by omega, rfl, rfl, by omega, by omega, fun j x _ _ => by omega, by rw [takeN_zero]; exact H.out, Only.refl _ _⟩
  case round =>
    obtain ⟨k, y, hk, rfl, rfl, hy1, hy2, hyr, hp, ho⟩ := hrel
    have PK := Lib.hid hp
    have OW := Lib.hid ho
    have YR := Lib.hid hyr
    clear hyr hp ho
    by_cases hlt : k < n
    · have hlt' : (k : Int) < (n : Int) := by omega
      have hkd : k < (dirt P.N g).length := by rw [← HN.out]; exact hlt
      obtain ⟨bk, hbk⟩ : ∃ bk, bk = (dirt P.N g)[k] := ⟨_, rfl⟩
      have hbk2 : (dirt P.N g)[k]? = some bk := by rw [hbk]; exact List.getElem?_eq_getElem hkd
      have hbN : bk < P.N := (mem_dirt.1 (List.mem_of_getElem? hbk2)).1
      have hb4 : (bk : Int) ≤ 4096 := by have := nw.out; omega
      obtain ⟨L, hL⟩ : ∃ L, L = (g bk).getD Z := ⟨_, rfl⟩
      have HLB : Hid (Blk L) := by rw [hL]; exact blk_get HG.out bk
      have hS := Strs.only OW.out HS.out (fun h0 x hx => by simpa using HA.out h0 x hx)
      obtain ⟨b0, o0, s, rfl, hb0, hl0, _, hc0, _, _⟩ := hS.at_ hlt
      have es : s = strB (recB bk L) := by
        rw [rows, List.getElem?_map, List.getElem?_map, hbk2] at hl0
        rw [hL]
        exact (Option.some.inj hl0).symm
      have hsz : s.size = 516 := by rw [es, strB_size, recB_length HLB.out]
      have UN := punpack_any wr bk L (by have := nw.out; omega) HLB.out
      rw [← es] at UN
      have UN := Lib.hid UN
      have hlty : y < (bk : Int) := YR.out k bk (Nat.le_refl _) hbk2
      have TK : Hid (takeN P.N g P.f (k + 1) = upd (takeN P.N g P.f k) bk L) := by rw [hL]; exact takeN_succ hbk2
      have NX : Hid (∀ j x, k + 1 ≤ j → (dirt P.N g)[j]? = some x → (bk : Int) < (x : Int)) := fun j x hj hx => by
        have := dirt_lt (show k < j by omega) hbk2 hx
        omega
      have BN : Hid (bk < P.N) := hbN
      clear hbk hbk2 hL hl0 es hkd hS hbN hn4
      obtain ⟨hz, hi0⟩ := zero_of_info zeroBlk
      have hlenL := HLB.out.len
      unfold blkV at hz
      clear hi0
      go_wp2_with fail
      refine UN.out.mono ?_
      rintro e w1 ⟨rfl, hb1⟩
      have st := store_blk w1 L HLB.out
      have B1 := Lib.hid hb1
      unfold blkV
      clear hb1 UN hc0
      go_upto_region 8 with fail
      obtain ⟨w2, hw2⟩ : ∃ w2, w2 = w1.alloc (.cells (L.map u8v).toArray 99) := ⟨_, rfl⟩
      obtain ⟨q2, hq2⟩ : ∃ q2, q2 = w1.heap.size := ⟨_, rfl⟩
      have B2 : Hid (Below wr.heap.size wr w2) := by rw [hw2]; exact B1.out.alloc B1.out.size _
      have Q2 : Hid (Held w2 q2 99 (L.map u8v).toArray) := by rw [hw2]; exact Held.new _ _ _ hq2
      have QN : Hid (q2 ≠ P.am) := by
        have h1 := PK.out.lt.2.1
        have h2 := B1.out.size
        show _ ≠ _
        have h3 : P.am < wr.heap.size := h1
        omega
      have P2 := Lib.hid (PK.out.under B2.out)
      rw [← hw2, ← hq2]
      have PH := phas_any w2 _ tx (bk : Int) P2.out
      rw [decide_eq_true (show 0 ≤ (bk : Int) ∧ (bk : Int) < (P.N : Int) by have := BN.out; omega)] at PH
      have PH := Lib.hid PH
      clear hw2 hq2 st hz
      go_wp2_with fail
      refine PH.out.mono ?_
      rintro e w3 ⟨rfl, q, rfl⟩
      go_upto_region 10 with fail
      have P3 := Lib.hid (P2.out.drewN q)
      have O3 : Hid (Only [P.am] w (w2.drewN q)) := (OW.out.trans (Only.of_below (F := []) B2.out) (fun _ hx => by cases hx)).drewN q
      have Q3 : Hid (Held (w2.drewN q) q2 99 (L.map u8v).toArray) := Q2.out
      generalize w2.drewN q = w3 at *
      have s1 : w3.cell? ⟨P.p, 3, none⟩ = some (.map (some P.am)) := P3.out.held.cell 3
      obtain ⟨w4, hr, hm4, ho4⟩ := (show MapAt w3.drew P.am P.N (takeN P.N g P.f k) from P3.out.away.only ((Only.refl [] w3).drew) (fun hx => by cases hx)).store (by have := nw.out; omega) BN.out HLB.out
      rw [← TK.out] at hm4
      have PM := (P3.out.drewN 1).mapped hm4 ho4
      have O4 : Hid (Only [P.am] w3 w4) := ((Only.refl [P.am] w3).drew).trans ho4 (fun x hx => .inl hx)
      have P4 := Lib.hid PM.1
      have OO : Hid (Only [P.am] w w4) := O3.out.trans O4.out (fun x hx => .inl hx)
      have hsz2 : (Tryz.prog.info? 99).map (·.size) = some (L.map u8v).length := by rw [List.length_map, hlenL]; exact (zero_of_info zeroBlk).2
      have ld : w3.rangeAt q2 0 (L.map u8v) := fun j v hv => by rw [Nat.zero_add, Q3.out.cell]; simpa using hv
      clear hm4 ho4 PM
      refine wp_region_noPanic ?_
      refine wp_region_held_drew (S := fun w' => w'.cell? ⟨P.p, 3, none⟩ = some (.map (some P.am)) ∧ w'.rangeAt q2 0 (L.map u8v)) (by kernel_rfl) ⟨s1, ld⟩ (fun hHeld => ?_)
      refine take_ (i := 0) (v := ?_) 33 rfl rfl (by kernel_rfl) (by kernel_rfl) (by kernel_rfl) (fun _ _ _ h => h) (Or.inl ⟨by rfl, ?_⟩) (by assumption) ?_
      rotate_left
      · (intro wS hSw; (try dsimp only at hSw); go_simp; try with_reducible rfl)
      simp only [Act.put, List.setIfInBounds_toArray, List.set_cons_zero, List.set_cons_succ]
      refine take_ (i := 1) (v := ?_) 34 rfl rfl (by kernel_rfl) (by kernel_rfl) (by kernel_rfl) (fun _ _ _ h => h) (Or.inl ⟨by rfl, ?_⟩) (by assumption) ?_
      rotate_left
      · (intro wS hSw; (try dsimp only at hSw); go_simp; try with_reducible rfl)
      simp only [Act.put, List.setIfInBounds_toArray, List.set_cons_zero, List.set_cons_succ]
      refine take_ (i := 2) (v := ?_) 35 rfl rfl (by kernel_rfl) (by kernel_rfl) (by kernel_rfl) (fun _ _ _ h => h) (Or.inl ⟨by rfl, ?_⟩) (by assumption) ?_
      rotate_left
      · (intro wS hSw; (try dsimp only at hSw); go_simp; try with_reducible rfl)
      simp only [Act.put, List.setIfInBounds_toArray, List.set_cons_zero, List.set_cons_succ]
      refine take_ (i := 3) (v := ?_) 36 rfl rfl (by kernel_rfl) (by kernel_rfl) (by kernel_rfl) (fun _ _ _ h => h) (Or.inl ⟨by rfl, ?_⟩) (by assumption) ?_
      rotate_left
      · (intro wS hSw; (try dsimp only at hSw); go_simp; try with_reducible rfl)
      simp only [Act.put, List.setIfInBounds_toArray, List.set_cons_zero, List.set_cons_succ]
      refine take_ (i := 4) (v := ?_) 37 rfl rfl (by kernel_rfl) (by kernel_rfl) (by kernel_rfl) (fun _ _ _ h => h) (Or.inl ⟨by rfl, ?_⟩) (by assumption) ?_
      rotate_left
      · (intro wS hSw; (try dsimp only at hSw); go_simp; try with_reducible rfl)
      simp only [Act.put, List.setIfInBounds_toArray, List.set_cons_zero, List.set_cons_succ]
      refine take_ (i := 5) (v := blkV L) 38 rfl rfl (by kernel_rfl) (by kernel_rfl) (by kernel_rfl) (fun _ _ _ h => h) (yieldsIf_load_mid (by rfl) _ _ rfl q2 0 rfl _ _ (fun w h => h.2) Tryz.underlying99 rfl hsz2) (by assumption) ?_
      simp only [Act.put, List.setIfInBounds_toArray, List.set_cons_zero, List.set_cons_succ]
      refine one_ (i := 6) _ (by kernel_rfl) rfl (fun K hK => ?_)
      go_simp
      have c1' : w4.cell? ⟨P.p, 3, none⟩ = some (.map (some P.am)) := P4.out.held.cell 3
      have ld' : w4.rangeAt q2 0 (L.map u8v) := fun j v hv => (O4.out.cell (p := ⟨q2, 0 + j, none⟩) Q3.out.lt (by simpa using QN.out)).trans (ld j v hv)
      clear hr s1 ld hHeld
      refine hK.out _ _ ⟨c1', ld'⟩ (fun hHeld => ?_)
      clear hK K
      refine wpAnyH_done (by kernel_rfl) ?_ _
      refine NoPanic.normal ?_
      clear c1' ld' hsz2
      go_wp2_with fail
      go_round
      case rel => exact ⟨k + 1, (bk : Int), by omega, by go_num, rfl, by omega, hb4, NX.out, P4.out, OO.out⟩
      case measure => simp [intOf]; omega
    · obtain rfl : k = n := by omega
      have E := takeN_all HG.out P.f HN.out
      go_wp2_with fail
      go_ret
      exact ⟨rfl, by rw [← E]; exact PK.out, OW.out⟩
end Go.Proofs.YtkajneeihhobhaaGreat

namespace Go.Proofs.YtkajneeihhobhaaGreat
open Go.RowKit Go.Maps Wal Pgr

/-- A pager that was opened: C are the commits that the disk m tells of. -/
structure OpenPag (w : World) (d : Nat) (F : List Nat) (m : Dsk.DM) (log : Nat) (C : List Com) (P : PS) (w' : World) : Prop where
  pag : PagAt w' P (.pointer none)
  d_ : P.d = d
  reg : P.reg = log
  n : P.N = m.dur.length - log
  m_ : P.m = m
  syn : P.s.synced = C.length
  inv : PInv P C
  only : Only F w w'
  new : ∀ x, (x = P.p ∨ x = P.am ∨ x ∈ P.G) → w.heap.size ≤ x
  foot : ∀ x ∈ P.F, x ∈ F ∨ w.heap.size ≤ x
theorem tells_inv {p d lb am : Nat} {G F : List Nat} {m : Dsk.DM} {log st fi : Nat} {C : List Com} (ht : Pgr.Tells (m.dur.length - log) log (holds m.dur) C st fi) (hw : m.wait = []) (hd : m.dead = false) (h2 : 2 ≤ log) (hl : log < m.dur.length) (hM : m.dur.length ≤ 4096) (hC : C.length < 1152921504606846976) :
    PInv ⟨p, d, lb, am, G, F, openS 0 (log - 1) st fi C.length ((C.drop (fi - 1)).map (rows (m.dur.length - log))), m, log, m.dur.length - log, false, Away (C.drop (fi - 1))⟩ C := by
  have h1 := ht.first
  refine ⟨?_, rfl, by show log - 1 + 1 = log; omega, h1, ht.fine, (fun x hx => by
    have hx : x ∈ m.wait := hx
    rw [hw] at hx
    cases hx), (fun b hb ha => ?_), rfl, (by
    show m.wait.length ≤ _
    rw [hw]
    exact Nat.zero_le _), rfl⟩
  · refine inv_open hM hd (show 0 + 1 + (log - 1) ≤ m.dur.length by omega) (by omega) (fun kp => ?_)
    show Wal.Found 0 (log - 1) (holds (Dsk.crashD m.wait kp m.dur)) _ _ _ _
    rw [hw]
    exact ht.found
  · refine ht.home b hb ?_
    have ha : Away ((C.take C.length).drop (fi - 1)) b = none := ha
    rwa [List.take_length] at ha
set_option maxRecDepth 100000 in
set_option maxHeartbeats 3200000 in
theorem popen_any (w : World) (d : Nat) (F : List Nat) (m : Dsk.DM) (log st fi : Nat) (C : List Com) (h : DiskAt w d F m) (h2 : 2 ≤ log) (hl : log < m.dur.length) (hd : m.dead = false) (hw : m.wait = []) (hC : C.length < 1152921504606846976)
    (ht : Pgr.Tells (m.dur.length - log) log (holds m.dur) C st fi) :
    Calls Tryz.prog 22 #[.pointer (some ⟨d, 0, none⟩), .int .i64 (log : Int)] w fun e w' => ∃ P, e = .returned (.tuple #[.pointer (some ⟨P.p, 0, none⟩), .int .i64 0]) ∧ OpenPag w d F m log C P w' := by
  have hM := h.good.most
  obtain ⟨N, hN⟩ : ∃ N, N = m.dur.length - log := ⟨_, rfl⟩
  obtain ⟨Cs, hCs⟩ : ∃ Cs, Cs = C.drop (fi - 1) := ⟨_, rfl⟩
  obtain ⟨s, hs⟩ : ∃ s, s = openS 0 (log - 1) st fi C.length (Cs.map (rows N)) := ⟨_, rfl⟩
  have CK := Lib.hid (pcheck_any w d F m log h h2 hl)
  have hfound := ht.found
  rw [← hN, ← hCs] at hfound
  have hseen : m.seen = m.dur := by unfold Dsk.DM.seen; rw [hw]; rfl
  have OP := open_any w d F m 0 log st fi C.length (Cs.map (rows N)) h (by unfold checkErr; rw [if_neg (by omega)]) hd (by rw [hseen]; exact hfound) (by have := ht.first; omega)
  rw [← hs] at OP
  have OP := Lib.hid OP
  have PI : ∀ p lb am G F', Hid (PInv ⟨p, d, lb, am, G, F', s, m, log, N, false, Away Cs⟩ C) := fun p lb am G F' => by
    rw [hs, hCs, hN]
    exact tells_inv ht hw hd h2 hl (by omega) hC
  have SY : Hid (s.synced = C.length) := by rw [hs]; rfl
  have FI : Hid (∀ g ∈ Cs, Fine N g) := fun g hg => by rw [hN]; exact ht.fine g (List.mem_of_mem_drop (by rw [← hCs]; exact hg))
  have SZ : Hid (m.dur.length = log + N) := by show _ = _; omega
  have hcn : Cs.length ≤ 4096 := by
    have h3 := needs_count (Cs.map (rows N))
    have h4 := hfound.room
    rw [List.length_map] at h3
    omega
  have HN := Lib.hid hN
  obtain ⟨n, hn⟩ : ∃ n, n = Cs.length := ⟨_, rfl⟩
  have NN := Lib.hid hn
  have n4 : (n : Int) ≤ 4096 := by omega
  clear h h2 hl hd hw hC ht hM hCs hs hfound hseen hN hcn hn
  go_enter Tryz.func22, Tryz.ntmps22
  go_wp2_with fail
  refine CK.out.mono ?_
  rintro e w1 ⟨rfl, rfl⟩
  go_wp2_with fail
  refine OP.out.mono ?_
  rintro e w1 ⟨lb, v, vs, G, F', rfl, hL, hO, hG, hF, hR, hne⟩
  obtain ⟨A, c, rfl⟩ := pslice hR.row
  rw [List.length_map, ← NN.out] at hR
  have L1 := Lib.hid hL
  have O1 := Lib.hid hO
  have G1 : Hid ((∀ x ∈ G, w.heap.size ≤ x) ∧ ∀ x ∈ F', x ∈ F ∨ w.heap.size ≤ x) := ⟨hG, hF⟩
  have R1 := Lib.hid hR
  have NP := Lib.hid (newPager_any w1 d lb log)
  clear hL hO hG hF hR hne CK OP
  go_wp2_with fail
  refine NP.out.mono ?_
  rintro e w2 ⟨rfl, hw2⟩
  obtain ⟨am, ham⟩ : ∃ am, am = w1.heap.size := ⟨_, rfl⟩
  have B2 : Hid (Below w1.heap.size w1 w2) := by rw [hw2]; exact ((Below.refl _ _).alloc (Nat.le_refl _) _).alloc (by simp) _
  have S2 : Hid (PagAt w2 ⟨am + 1, d, lb, am, G, F', s, m, log, N, false, Away (Cs.take 0)⟩ (.pointer none)) := by
    have hlt : ∀ x ∈ G ++ F', x < w1.heap.size := fun x hx => by
      rcases List.mem_append.1 hx with hx | hx
      · exact L1.out.glt x hx
      · exact L1.out.flt x hx
    rw [ham]
    refine ⟨?_, L1.out.under B2.out, ?_, Nat.succ_ne_self _, fun hx => absurd (hlt _ hx) (Nat.not_lt.2 (Nat.le_succ _)), fun hx => absurd (hlt _ hx) (Nat.lt_irrefl _), SZ.out⟩
    · rw [hw2]; exact Held.new _ _ _ (by simp)
    · rw [hw2]; exact (MapAt.made w1 rfl _).only ((Only.refl [] _).alloc _) (by simp)
  have R2 := Lib.hid (R1.out.under B2.out)
  have O2 : Hid (Only F w w2) := O1.out.under B2.out
  have AM : Hid (w.heap.size ≤ am ∧ ∀ x ∈ rowsFoot (.slice A n c) vs, x < am) := by
    rw [ham]
    exact ⟨O1.out.size, fun x hx => (R1.out.lt x hx).2⟩
  rw [← ham, ← NN.out]
  clear hw2 ham NP R1 L1 O1 B2
  go_wp2_with fail
  go_loopw [35] (fun iv wr => ∃ k : Nat, k ≤ n ∧ iv = .int .i64 (k : Nat) ∧ PagAt wr ⟨am + 1, d, lb, am, G, F', s, m, log, N, false, Away (Cs.take k)⟩ (.pointer none) ∧ RowsAt wr w.heap.size (.slice A n c) vs (Cs.map (rows N)) ∧ Only F w wr) (fun iv _ => n - (intOf iv).toNat)
  case atStart => exact ⟨0, by omega, rfl, S2.out, R2.out, O2.out⟩
  case round =>
    clear S2 R2 O2
    obtain ⟨k, hk, rfl, hp, hr, ho⟩ := hrel
    have PK := Lib.hid hp
    have RK := Lib.hid hr
    have OK := Lib.hid ho
    by_cases hlt : k < n
    · have hlt' : (k : Int) < (n : Int) := by omega
      have hlv := hr.len
      rw [List.length_map, ← NN.out] at hlv
      have hkc : k < Cs.length := by rw [← NN.out]; exact hlt
      obtain ⟨g, hgk⟩ : ∃ g, Cs[k]? = some g := ⟨_, List.getElem?_eq_getElem hkc⟩
      obtain ⟨u, huk⟩ : ∃ u, vs[k]? = some u := ⟨_, List.getElem?_eq_getElem (by omega)⟩
      have hBk : (Cs.map (rows N))[k]? = some (rows N g) := by rw [List.getElem?_map, hgk]; rfl
      have hE := hr.each k u _ huk hBk
      have hfg := FI.out g (List.mem_of_getElem? hgk)
      obtain ⟨A1, c1, rfl⟩ := pslice hE
      obtain ⟨hn1, hst, _⟩ := strs_own hE (fun r hr => by rw [(rows_mem hfg r hr).1]; omega) (fun r hr => (rows_mem hfg r hr).2)
      obtain ⟨n1, hn1'⟩ : ∃ n1, n1 = (rows N g).length := ⟨_, rfl⟩
      obtain ⟨g0, rfl⟩ : ∃ g0, A = some ⟨g0, 0, none⟩ := by
        rcases hr.row.2 with ⟨h1, _⟩ | ⟨g', cap, cur, h1, _⟩
        · injection h1 with _ h2 _
          omega
        · injection h1 with h1 _ _
          exact ⟨g', h1⟩
      have x1 : wr.cell? ⟨g0, k, none⟩ = some (.slice A1 n1 c1) := by
        have hr' := hr.row
        rw [List.length_map, ← NN.out] at hr'
        rw [hr'.cellAt k (by omega), huk, hn1']
      have hA1 : 0 < n1 → ∀ x, A1 = some x → x.block ≠ am := fun _ x hx => by
        rcases hE.2 with ⟨h1, _⟩ | ⟨g', cap, cur, h1, _⟩
        · injection h1 with h1 _ _
          rw [hx] at h1
          cases h1
        · injection h1 with h1 _ _
          rw [hx] at h1
          injection h1 with h1
          rw [h1]
          have := AM.out.2 g' (mem_rowsFoot.2 (.inr ⟨_, List.mem_of_getElem? huk, by rw [hx, h1]; rfl⟩))
          show g' ≠ am
          omega
      have TK := ptake_any wr ⟨am + 1, d, lb, am, G, F', s, m, log, N, false, Away (Cs.take k)⟩ (.pointer none) g A1 n1 c1 hp hfg (by rw [hn1']; exact hst) hA1
      have ef : (fun b => (g b).or (Away (Cs.take k) b)) = Away (Cs.take (k + 1)) := by
        funext b
        rw [List.take_add_one, hgk]
        exact (Away_snoc _ g b).symm
      unfold TakeRes at TK
      rw [ef] at TK
      have TK := Lib.hid TK
      clear hp hr ho hlv hkc hgk huk hBk hE hfg hn1 hst hn1' hA1 ef
      go_wp2_with fail
      refine TK.out.mono ?_
      rintro e w3 ⟨rfl, hp3, ho3⟩
      have P3 := Lib.hid hp3
      have R3 := Lib.hid (RK.out.only ho3 (fun x hx => by
        have := AM.out.2 x hx
        simp only [List.mem_singleton]
        omega))
      have O3 : Hid (Only F w w3) := OK.out.trans ho3 (fun x hx => .inr (by
        rw [List.mem_singleton.1 hx]
        exact AM.out.1))
      clear hp3 ho3 TK x1
      go_wp2_with fail
      go_round
      case rel => exact ⟨k + 1, by omega, by go_num, P3.out, R3.out, O3.out⟩
      case measure => simp [intOf]; omega
    · obtain rfl : k = n := by omega
      have E : Cs.take k = Cs := by rw [NN.out, List.take_length]
      have RES : Hid (OpenPag w d F m log C ⟨am + 1, d, lb, am, G, F', s, m, log, N, false, Away Cs⟩ wr) :=
        ⟨by rw [← E]; exact PK.out, rfl, rfl, HN.out, rfl, SY.out, (PI _ _ _ _ _).out, OK.out, fun x hx => by
          rcases hx with rfl | rfl | hx
          · exact Nat.le_succ_of_le AM.out.1
          · exact AM.out.1
          · exact G1.out.1 x hx, G1.out.2⟩
      clear hp hr ho
      go_wp2_with fail
      go_ret2
      exact ⟨_, rfl, RES.out⟩
end Go.Proofs.YtkajneeihhobhaaGreat
