/-
  slices.Chunk over a slice of bytes whose length is a multiple of 512, in pieces of 512: its iterator's contract. · slices.Chunk over a slice of bytes, as the law for its callers wants it. · wal: the contracts of beginsAsLog and chooseMask. · A range over slices.Chunk, one loop variable: the law for its callers, the frame behind the assignment reckoned.
-/
import Derived.Test.YtkajneeihhobhaaGreatMWalC
import Derived.RangeFuncNested
import Derived.RangeFuncBound
import Derived.RangeFuncCalls
import Derived.RangeFuncLeaves
import Derived.Shelf.Abstract
import Derived.Shelf.RegionOpen
import Derived.OwnWalkIn
import Derived.TacticsInMore
import Derived.LoopNIn
import Derived.LoopIn
namespace Go.Proofs.YtkajneeihhobhaaGreat
open Go.RowKit Go.Shelf Wal

attribute [local go_sem] Oper.semAt_some

/-- What a round keeps: the two boxes of the iterator. -/
def KpBox (Bs Bn : Nat) (W W' : World) : Prop := W'.cell? ⟨Bs, 0, none⟩ = W.cell? ⟨Bs, 0, none⟩ ∧ W'.cell? ⟨Bn, 0, none⟩ = W.cell? ⟨Bn, 0, none⟩
theorem KpBox.t {Bs Bn : Nat} {A B C : World} (h : KpBox Bs Bn A B) (k : KpBox Bs Bn B C) : KpBox Bs Bn A C := ⟨k.1.trans h.1, k.2.trans h.2⟩
theorem KpBox.b {Bs Bn : Nat} {w : World} (h1 : Bs < w.heap.size) (h2 : Bn < w.heap.size) (W : World) (l : Nat) (o o' : Obj) (hl : w.heap.size ≤ l) (_ : W.heap[l]? = some o) (_ : o.isCells = false) (_ : o.isWalk = false) : KpBox Bs Bn W (W.putObj l o') :=
  ⟨World.cell?_of_block (World.putObj_heap_other (by show Bs ≠ l; omega)), World.cell?_of_block (World.putObj_heap_other (by show Bn ≠ l; omega))⟩
theorem KpBox.only {Bs Bn : Nat} {F : List Nat} {W W' : World} (h : Only F W W') (h1 : Bs < W.heap.size) (h2 : Bn < W.heap.size) (n1 : Bs ∉ F) (n2 : Bn ∉ F) : KpBox Bs Bn W W' :=
  ⟨h.cell (p := ⟨Bs, 0, none⟩) h1 n1, h.cell (p := ⟨Bn, 0, none⟩) h2 n2⟩

set_option maxRecDepth 100000 in
set_option maxHeartbeats 2000000 in
theorem chunk1_in (F : Fence) (n : Nat) (hf : F.fn 99) (hro : F.round = none) (hn : 1 ≤ n) (l Bs Bn g off k : Nat) (hk : k ≤ 4096) (J Jx : List Nat → World → Prop) (hJ : ∀ s W, J s W → J s W.drew)
    (hY : ∀ pre x W, J pre W → pre.length < k → x < k → YieldAt F (n - 1) Tryz.prog l #[.slice (some ⟨g, off + 512 * x, none⟩) 512 512] W fun e W' =>
      (e = .returned (.bool true) ∧ J (pre ++ [x]) W' ∧ KpBox Bs Bn W W') ∨ (e = .returned (.bool false) ∧ Jx (pre ++ [x]) W'))
    (W : World) (hBs : W.cell? ⟨Bs, 0, none⟩ = some (.slice (some ⟨g, off, none⟩) (512 * k) (512 * k))) (hBn : W.cell? ⟨Bn, 0, none⟩ = some (.int .i64 512)) (h0 : J [] W) :
    CallsIn F n Tryz.prog 99 #[.func (.yield l) #[] #[], .pointer (some ⟨Bs, 0, none⟩), .pointer (some ⟨Bn, 0, none⟩)] W fun e W' => (∃ v, e = .returned v) ∧
      ((∃ ys, ys = List.range k ∧ J ys W') ∨ (∃ pre, (∃ j, j ≤ k ∧ pre = List.range j) ∧ Jx pre W')) := by
  refine callsIn_of_wp Tryz.func99 rfl hf ?_ hro
  simp only [Tryz.ntmps99, List.size_toArray, List.length_cons, List.length_nil, Nat.reduceAdd, Nat.reduceSub, Array.replicate_succ, Array.replicate_zero, List.push_toArray, List.append_toArray, List.nil_append, List.cons_append]
  gi_wp2
  gi_loopw [4] (fun i wr => ∃ j : Nat, j ≤ k ∧ i = .int .i64 ((512 * j : Nat) : Int) ∧ J (List.range j) wr ∧ KpBox Bs Bn W wr)
    (fun i _ => 512 * k - (intOf i).toNat)
  case atStart => exact ⟨0, Nat.zero_le _, rfl, h0, rfl, rfl⟩
  case round =>
    obtain ⟨j, hj, rfl, hJs, hkp⟩ := hrel
    have c1 := hkp.1.trans hBs
    have c2 := hkp.2.trans hBn
    by_cases hlt : j < k
    · obtain ⟨fn, tmps, assign, body, hy, hR⟩ := hY _ j wr.drew (hJ _ _ hJs) (by rw [List.length_range]; exact hlt) hlt
      have h512 : ¬ ((512 * k - 512 * j : Nat) : Int) < 512 := by omega
      have hfit : 512 * j + 512 ≤ 512 * k := by omega
      gi_wp2
      gi_region
      all_goals
        clear hJs hkp
        gi_wp2
        refine hR.mono ?_
        rintro e W3 (⟨rfl, hJ3, hk3⟩ | ⟨rfl, hJx3⟩)
        · have e1 : W3.cell? ⟨Bs, 0, none⟩ = some (.slice (some ⟨g, off, none⟩) (512 * k) (512 * k)) := hk3.1.trans c1
          have e2 : W3.cell? ⟨Bn, 0, none⟩ = some (.int .i64 512) := hk3.2.trans c2
          gi_wp2
          go_roundw
          case rel => exact ⟨j + 1, by omega, by go_num, by rw [List.range_succ]; exact hJ3, KpBox.t ⟨c1.trans hBs.symm, c2.trans hBn.symm⟩ hk3⟩
          case measure => simp [intOf]; omega
        · gi_wp2
          refine bodyPost_ret (results_none rfl _ _ _) rfl ?_
          exact ⟨⟨_, rfl⟩, .inr ⟨_, ⟨j + 1, by omega, List.range_succ.symm⟩, hJx3⟩⟩
    · obtain rfl : j = k := by omega
      gi_wp2
      go_end0
      exact ⟨⟨_, rfl⟩, .inl ⟨_, rfl, hJs⟩⟩

set_option maxRecDepth 100000 in
set_option maxHeartbeats 1000000 in
/-- .. where there is nothing: no round. -/
theorem chunk1_none (F : Fence) (n : Nat) (hf : F.fn 99) (hro : F.round = none) (l Bs Bn : Nat) (A : Option Addr) (c : Nat) (J : List Nat → World → Prop) (W : World) (hBs : W.cell? ⟨Bs, 0, none⟩ = some (.slice A 0 c)) (h0 : J [] W) :
    CallsIn F n Tryz.prog 99 #[.func (.yield l) #[] #[], .pointer (some ⟨Bs, 0, none⟩), .pointer (some ⟨Bn, 0, none⟩)] W fun e W' => (∃ v, e = .returned v) ∧ J [] W' := by
  refine callsIn_of_wp Tryz.func99 rfl hf ?_ hro
  simp only [Tryz.ntmps99, List.size_toArray, List.length_cons, List.length_nil, Nat.reduceAdd, Nat.reduceSub, Array.replicate_succ, Array.replicate_zero, List.push_toArray, List.append_toArray, List.nil_append, List.cons_append]
  gi_wp2
  gi_loopw [4] (fun i wr => i = .int .i64 0 ∧ J [] wr ∧ wr.cell? ⟨Bs, 0, none⟩ = some (.slice A 0 c)) (fun _ _ => 0)
  case atStart => exact ⟨rfl, h0, hBs⟩
  case round =>
    obtain ⟨rfl, hJs, hc⟩ := hrel
    gi_wp2
    go_end0
    exact ⟨⟨_, rfl⟩, hJs⟩

set_option maxHeartbeats 1000000 in
/-- slices.Chunk(s, 512): the slice and the size are boxed; the function value holds the boxes. -/
theorem chunk_in (F : Fence) (n : Nat) (hf : F.fn 85) (hro : F.round = none) (a : Option Addr) (len cap : Nat) (w : World) :
    CallsIn F n Tryz.prog 85 #[.slice a len cap, .int .i64 512] w fun e w' => e = .returned (.func (.func 99) #[] #[.pointer (some ⟨w.heap.size, 0, none⟩), .pointer (some ⟨w.heap.size + 1, 0, none⟩)]) ∧
      w' = (w.alloc (.cells #[.slice a len cap] 56)).alloc (.cells #[.int .i64 512] 3) := by
  refine callsIn_of_wp Tryz.func85 rfl hf ?_ hro
  simp only [Tryz.ntmps85, List.size_toArray, List.length_cons, List.length_nil, Nat.reduceAdd, Nat.reduceSub, Array.replicate_succ, Array.replicate_zero, List.push_toArray, List.append_toArray, List.nil_append, List.cons_append]
  gi_wp2
  go_ret
  exact ⟨rfl, rfl⟩

end Go.Proofs.YtkajneeihhobhaaGreat

namespace Go.Proofs.YtkajneeihhobhaaGreat
open Go.RowKit Go.Shelf Wal

attribute [local go_sem] Oper.semAt_some

/-- The sector's number, whatever is asked. -/
def ix (k x : Nat) : Nat := min x (k - 1)
theorem ix_of {k x : Nat} (h : x < k) : ix k x = x := by unfold ix; omega
theorem ix_lt {k : Nat} (x : Nat) (h : 0 < k) : ix k x < k := by unfold ix; omega
/-- A slice of k sectors; where k is 0 its address says nothing. -/
def Sects (A : Option Addr) (g off k : Nat) : Prop := 0 < k → A = some ⟨g, off, none⟩

theorem chunk_stops (F : Fence) (n : Nat) (hf : F.fn 99) (hro : F.round = none) (hn : 1 ≤ n) (Bs Bn g off k c : Nat) (A : Option Addr) (hk : k ≤ 4096) (hA : Sects A g off k) (hc : 0 < k → c = 512 * k) (w : World) (hBs : Bs < w.heap.size) (hBn : Bn < w.heap.size)
    (h1 : w.cell? ⟨Bs, 0, none⟩ = some (.slice A (512 * k) c)) (h2 : w.cell? ⟨Bn, 0, none⟩ = some (.int .i64 512)) :
    SeqStopsK F n Tryz.prog 99 #[.pointer (some ⟨Bs, 0, none⟩), .pointer (some ⟨Bn, 0, none⟩)] (fun x : Nat => #[Value.slice (some ⟨g, off + 512 * ix k x, none⟩) 512 512]) (KpBox Bs Bn) (fun ys => ys = List.range k) (fun pre => ∃ j, j ≤ k ∧ pre = List.range j) k w := fun l J Jx W hW hJ _ hY h0 => by
  have e1 := (hW.cell (p := ⟨Bs, 0, none⟩) hBs).trans h1
  have e2 := (hW.cell (p := ⟨Bn, 0, none⟩) hBn).trans h2
  rcases Nat.eq_zero_or_pos k with h0k | h0k
  · subst h0k
    exact (chunk1_none F n hf hro l Bs Bn A c J W e1 h0).mono fun e W' ⟨he, hj⟩ => ⟨he, .inl ⟨_, rfl, hj⟩⟩
  · rw [hA h0k, hc h0k] at e1
    exact chunk1_in F n hf hro hn l Bs Bn g off k hk J Jx (fun s W hs => hJ s W W.drew none hs ⟨rfl, rfl, rfl, Nat.le_refl _, fun _ _ _ => rfl⟩ (fun r e => by cases e)) (fun pre x W h1 h2 h3 => by
      have := hY pre x W h1 h2
      dsimp only at this
      rwa [ix_of h3] at this) W e1 e2 h0
end Go.Proofs.YtkajneeihhobhaaGreat

namespace Go.Proofs.YtkajneeihhobhaaGreat
open Go.RowKit Go.Shelf Wal

attribute [local go_sem] Oper.semAt_some

namespace Wal
/-- The first two bytes of sector i, of those from off on. -/
def head2 (L : List Nat) (off i : Nat) : Nat := unnum ((L.drop (off + 512 * i)).take 2)
/-- Does one of k sectors begin as the log's own does, under a mask? -/
def begins (L : List Nat) (off k mask : Nat) : Bool := (List.range k).any fun i => head2 L off i == 28516 ^^^ mask
theorem begins_no {L : List Nat} {off k mask : Nat} : begins L off k mask = false ↔ ∀ i, i < k → head2 L off i ≠ 28516 ^^^ mask := by
  simp [begins]
theorem begins_yes {L : List Nat} {off k mask i : Nat} (hi : i < k) (h : head2 L off i = 28516 ^^^ mask) : begins L off k mask = true := by
  simp only [begins, List.any_eq_true, List.mem_range, beq_iff_eq]
  exact ⟨i, hi, h⟩
end Wal

theorem Held.kept {W W' : World} {g : Nat} {t : TypeId} {cs : Array Value} {row : Option Nat} (h : Held W g t cs) (hg : W.grownBy W' row) (hr : ∀ r, row = some r → ∃ o : Obj, W.heap[r]? = some o ∧ o.isCells = false) : Held W' g t cs := by
  refine (hg.block g h.lt (fun e => ?_)).trans h
  obtain ⟨o, h1, h2⟩ := hr g e.symm
  unfold Held at h
  rw [h] at h1
  injection h1 with h1
  rw [← h1] at h2
  cases h2
theorem Buf.kept {W W' : World} {g : Nat} {L : List Nat} {row : Option Nat} (h : Buf W g L) (hg : W.grownBy W' row) (hr : ∀ r, row = some r → ∃ o : Obj, W.heap[r]? = some o ∧ o.isCells = false) : Buf W' g L := ⟨h.held.kept hg hr, h.bytes⟩
theorem cell_row {W : World} {g : Nat} {cs : Array Value} {t : TypeId} {i : Nat} {u : Value} (h : Held W g t cs) (hu : cs[i]? = some u) : W.cell? ⟨g, i, none⟩ = some u := (h.cell i).trans hu

set_option maxRecDepth 100000 in
set_option maxHeartbeats 2000000 in
theorem begins_any (w : World) (g off k c : Nat) (A : Option Addr) (L : List Nat) (mask : Nat) (h : Buf w g L) (hk : k ≤ 4096) (hA : Sects A g off k) (hc : 0 < k → c = 512 * k) (ho : off + 512 * k ≤ L.length) (hm : mask < 18446744073709551616) :
    Calls Tryz.prog 122 #[.slice A (512 * k) c, .int .u64 (mask : Int)] w fun e W' => e = .returned (.bool (begins L off k mask)) ∧ Below w.heap.size w W' := by
  refine (callsIn_wide (n := 6)).1 ?_
  refine callsIn_of_wp_marks Tryz.func122 rfl trivial ?_ rfl
  simp only [Tryz.ntmps122, List.size_toArray, List.length_cons, List.length_nil, Nat.reduceAdd, Nat.reduceSub, Array.replicate_succ, Array.replicate_zero, List.push_toArray, List.append_toArray, List.nil_append, List.cons_append]
  have kc := fun u s => Lib.run_convert_string_bytes (P := Tryz.prog) u 9 56 5 s Tryz.underlying9 Tryz.underlying56 Tryz.underlying5
  have hx : bits .xor .u64 28516 (mask : Int) = ((28516 ^^^ mask : Nat) : Int) := u64_xor_nat 28516 mask (by decide) hm
  have HB : ∀ u : World, Bts (Lib.bytesWorld u 5 (({ data := #[100, 111, 99, 107, 101, 116, 39, 115, 32, 108, 111, 103] } : ByteArray).extract 0 2)) (some ⟨u.heap.size, 0, none⟩) 2 [100, 111] := fun u => by
    have h1 := bts_bytesWorld u 5 (({ data := #[100, 111, 99, 107, 101, 116, 39, 115, 32, 108, 111, 103] } : ByteArray).extract 0 2) rfl
    have h2 : (({ data := #[100, 111, 99, 107, 101, 116, 39, 115, 32, 108, 111, 103] } : ByteArray).extract 0 2).size = 2 := by decide +kernel
    have h3 : nums (({ data := #[100, 111, 99, 107, 101, 116, 39, 115, 32, 108, 111, 103] } : ByteArray).extract 0 2) = [100, 111] := by decide +kernel
    rw [h2, h3] at h1
    exact h1
  have H := Lib.hid h
  have HM := Lib.hid hm
  have HO := Lib.hid ho
  clear h hm ho
  gi_wp2
  have hb := HB (w.alloc (Obj.cells #[Value.bool false] 4))
  rw [World.size_alloc] at hb
  refine ⟨trivial, ?_⟩
  refine (callsIn_wide.2 (readNumber_any _ _ 2 _ [100, 111] hb (by omega))).mono ?_
  rintro e w1 ⟨rfl, hw1⟩
  have e2 : unnum [100, 111] = 28516 := by decide
  rw [e2]
  have B1 := Lib.hid (((Below.refl w.heap.size w).alloc (Nat.le_refl _) (Obj.cells #[Value.bool false] 4)).trans (below_bytesWorld _ 5 (({ data := #[100, 111, 99, 107, 101, 116, 39, 115, 32, 108, 111, 103] } : ByteArray).extract 0 2) (by simp)))
  have H0 : Hid (Held w1 w.heap.size 4 #[.bool false]) := by
    have h1 := Held.new w 4 #[.bool false] rfl
    rw [← hw1]
    exact h1.below (below_bytesWorld (B := w.heap.size + 1) _ 5 _ (by simp)) (by omega)
  rw [hw1] at B1
  clear hw1 hb HB kc e2
  generalize hv7 : Value.string (({ data := #[100, 111, 99, 107, 101, 116, 39, 115, 32, 108, 111, 103] } : ByteArray).extract 0 2) = v7
  generalize hv8 : Value.slice (some { block := w.heap.size + 1, off := 0 }) 2 (grownCap (w.alloc (Obj.cells #[Value.bool false] 4)) 2 0 5) = v8
  clear hv7 hv8
  gi_wp2
  obtain ⟨X, hX⟩ : ∃ X, X = 28516 ^^^ mask := ⟨_, rfl⟩
  have EX := Lib.hid hX
  rw [← hX]
  clear hX hx
  obtain ⟨w2, hw2⟩ : ∃ w2, w2 = w1.alloc (Obj.cells #[Value.int IntKind.u64 (X : Int)] 157) := ⟨_, rfl⟩
  have H2 : Hid (Held w2 w1.heap.size 157 #[.int .u64 (X : Int)]) := by rw [hw2]; exact Held.new _ _ _ rfl
  have H1 : Hid (Held w2 w.heap.size 4 #[.bool false]) := by rw [hw2]; exact H0.out.alloc _
  have B2 : Hid (Below w.heap.size w w2) := by rw [hw2]; exact B1.out.alloc B1.out.size _
  have Z2 : Hid (w2.heap.size = w1.heap.size + 1) := by show _ = _; rw [hw2]; simp
  have Z1 : Hid (w.heap.size < w1.heap.size) := H0.out.lt
  rw [← hw2]
  clear hw2 H0 B1
  refine ⟨trivial, ?_⟩
  refine (chunk_in Fence.wide _ trivial rfl A (512 * k) c _).mono ?_
  rintro e w3 ⟨rfl, hw3⟩
  have H3 : Hid (Held w3 w1.heap.size 157 #[.int .u64 (X : Int)]) := by rw [hw3]; exact (H2.out.alloc _).alloc _
  have H4 : Hid (Held w3 w.heap.size 4 #[.bool false]) := by rw [hw3]; exact (H1.out.alloc _).alloc _
  have H5 : Hid (Held w3 w2.heap.size 56 #[.slice A (512 * k) c]) := by rw [hw3]; exact (Held.new _ _ _ rfl).alloc _
  have H6 : Hid (Held w3 (w2.heap.size + 1) 3 #[.int .i64 512]) := by rw [hw3]; exact Held.new _ _ _ (by simp)
  have B3 : Hid (Below w.heap.size w w3) := by rw [hw3]; exact (B2.out.alloc B2.out.size _).alloc (by have := B2.out.size; simp; omega) _
  have U3 := Lib.hid (H.out.below B3.out H.out.lt)
  clear hw3 H2 H1 B2
  gi_wp2
  generalize hq : w1.heap.size = q1 at *
  clear hq
  generalize hb : w2.heap.size = b1 at *
  clear hb
  refine wpIn_rangeFunc_ownG rfl (by omega) (gf := 99) (lb := #[.pointer (some ⟨b1, 0, none⟩), .pointer (some ⟨b1 + 1, 0, none⟩)]) rfl trivial (enters_of Tryz.func99 (by kernel_rfl) rfl)
    (chunk_stops Fence.wide _ trivial rfl (by omega) b1 (b1 + 1) g off k c A hk hA hc w3 H5.out.lt H6.out.lt (cell_row H5.out rfl) (cell_row H6.out rfl)) KpBox.t (KpBox.b H5.out.lt H6.out.lt) (Below.refl _ _) (fun _ => rfl)
    (fun pre W => ((∀ y ∈ pre, head2 L off (ix k y) ≠ X) ∧ Held W w.heap.size 4 #[.bool false] ∧ Held W q1 157 #[.int .u64 (X : Int)] ∧ Buf W g L) ∧ Below w.heap.size w W)
    (fun c pre W => (c = .ret ∧ (∃ y, head2 L off (ix k y) = X ∧ 0 < k) ∧ Held W w.heap.size 4 #[.bool true]) ∧ Below w.heap.size w W)
    (OwnFrom.and (Own.from (fun s A B row hs hg hr => ⟨hs.1, hs.2.1.kept hg hr, hs.2.2.1.kept hg hr, hs.2.2.2.kept hg hr⟩) _) (ownFrom_below (Nat.le_refl _) B3.out.size))
    (fun c => OwnFrom.and (Own.from (fun s A B row hs hg hr => ⟨hs.1, hs.2.1, hs.2.2.kept hg hr⟩) _) (ownFrom_below (Nat.le_refl _) B3.out.size))
    ⟨⟨by simp, H4.out, H3.out, U3.out⟩, B3.out⟩
    (fun x => { tmps := #[.slice A (512 * k) c, .int .u64 (mask : Int), undef, undef, .pointer (some ⟨w.heap.size, 0, none⟩), .pointer (some ⟨q1, 0, none⟩), .slice (some ⟨g, off + 512 * ix k x, none⟩) 512 512, v7, v8, .int .u64 28516, .int .u64 (mask : Int), .int .u64 (X : Int), .slice A (512 * k) c, .func (.func 99) #[] #[.pointer (some ⟨b1, 0, none⟩), .pointer (some ⟨b1 + 1, 0, none⟩)], .slice (some ⟨g, off + 512 * ix k x, none⟩) 512 512, undef, undef, undef, undef, undef], defers := [] }) ?assign ?body ?done ?stop
  case assign =>
    intro l x W K hK
    gi_wp2
    exact hK
  case body =>
    rintro l pre x W ⟨⟨hp, hq0, hq1, hu⟩, hB⟩ hpk
    have hi := ix_lt x (show 0 < k by omega)
    have R2 := Lib.hid (readNumber_any W.drew (some ⟨g, off + 512 * ix k x, none⟩) 2 512 _ (hu.drew.bts (off := off + 512 * ix k x) (n := 2) (by have := HO.out; omega)) (by omega))
    have kx : W.cell? ⟨q1, 0, none⟩ = some (.int .u64 (X : Int)) := hq1.cell 0
    have kr : W.cell? ⟨w.heap.size, 0, none⟩ = some (.bool false) := hq0.cell 0
    have kf : W.frozen? ⟨w.heap.size, 0, none⟩ = false := hq0.frozen 0
    have P := Lib.hid hp
    have Q0 := Lib.hid hq0
    have Q1 := Lib.hid hq1
    have BU := Lib.hid hu
    have BW := Lib.hid hB
    have hmx : Tryz.prog.follows .mixedOrders = true := by kernel_rfl
    clear hp hq0 hq1 hu hB
    gi_wp2
    gi_region_with_o (refine ⟨trivial, ?_⟩; refine (CallsIn.inRound l (callsIn_wide.2 R2.out)).mono ?_; rintro e w' ⟨rfl, rfl⟩)
    all_goals
      by_cases hy : unnum (List.take 2 (List.drop (off + 512 * ix k x) L)) = X
      · have hb : (((unnum (List.take 2 (List.drop (off + 512 * ix k x) L)) : Nat) : Int) == (X : Int)) = true := by rw [hy]; simp
        have HY := Lib.hid hy
        clear hy
        gi_wp2
        exact ⟨((KeepsOthers.drew W).trans (KeepsOthers.setCell _ _ _)).from _, ⟨rfl, ⟨x, HY.out, by omega⟩, Q0.out.drew.set_ 0 (.bool true)⟩, BW.out.drew.setCell (p := ⟨w.heap.size, 0, none⟩) (Nat.le_refl _) _⟩
      · have hb : (((unnum (List.take 2 (List.drop (off + 512 * ix k x) L)) : Nat) : Int) == (X : Int)) = false := by simp; omega
        have HY := Lib.hid hy
        clear hy
        gi_wp2
        exact ⟨(KeepsOthers.drew W).from _, ⟨rfl, rfl⟩, ⟨fun y hm => (List.mem_append.1 hm).elim (P.out y) (fun e => by
          have : y = x := by simpa using e
          rw [this]
          exact HY.out), Q0.out.drew, Q1.out.drew, BU.out.drew⟩, BW.out.drew⟩
  case done =>
    rintro D ys W hD rfl ⟨⟨hne, hq0, _, _⟩, hB⟩ hK
    have kr : W.cell? ⟨w.heap.size, 0, none⟩ = some (.bool false) := hq0.cell 0
    have kf : W.frozen? ⟨w.heap.size, 0, none⟩ = false := hq0.frozen 0
    have E : Hid (begins L off k mask = false) := begins_no.2 fun i hi e => by
      have h1 := hne i (List.mem_range.2 hi)
      rw [ix_of hi] at h1
      exact h1 (by rw [EX.out]; exact e)
    gi_wp2
    have hK' := (KeepsOthers.setCell W ⟨w.heap.size, 0, none⟩ (.bool false)).same D _ hK rfl
    refine ⟨by simp, .inl ⟨_, _, rfl, run_takeDeferred hK', ?_⟩⟩
    have hc5 := cell_kept (World.cell?_setCell_same' W ⟨w.heap.size, 0, none⟩ (.bool false) (by rw [kr]; rfl)) (grownBy_putObj' _ D (.deferred none)) (fun r e => by cases e; exact ⟨_, hK', rfl⟩)
    refine ⟨.bool false, ?_, by rw [E.out], (hB.setCell (p := ⟨w.heap.size, 0, none⟩) (Nat.le_refl _) _).trans (belowK_b (w := w) (Nat.le_refl _) _ D _ _ (by have := B3.out.size; omega) hK' rfl rfl)⟩
    simp [results, Tryz.f122, go_sem, hc5]
  case stop =>
    rintro D c pre W hD hpre ⟨⟨rfl, ⟨y, hy, h0k⟩, hq0⟩, hB⟩ hK
    have kr : W.cell? ⟨w.heap.size, 0, none⟩ = some (.bool true) := hq0.cell 0
    have E : Hid (begins L off k mask = true) := begins_yes (ix_lt y h0k) (by rw [hy, EX.out])
    gi_wp2
    refine ⟨by simp, .inl ⟨_, _, rfl, run_takeDeferred hK, ?_⟩⟩
    have hc5 := cell_kept kr (grownBy_putObj' _ D (.deferred none)) (fun r e => by cases e; exact ⟨_, hK, rfl⟩)
    refine ⟨.bool true, ?_, by rw [E.out], hB.trans (belowK_b (w := w) (Nat.le_refl _) W D _ _ (by have := B3.out.size; omega) hK rfl rfl)⟩
    simp [results, Tryz.f122, go_sem, hc5]

namespace Wal
/-- The least mask from m on under which no sector begins as the log's own does, if one of the next n is such. -/
def pick (L : List Nat) (off k : Nat) : Nat → Nat → Nat
  | 0, m => m
  | n + 1, m => if begins L off k m then pick L off k n (m + 1) else m
def maskOf (L : List Nat) (off k : Nat) : Nat := pick L off k (k + 1) 0
theorem pick_step {L : List Nat} {off k n m : Nat} (h : begins L off k m = true) : pick L off k (n + 1) m = pick L off k n (m + 1) := by simp [pick, h]
theorem pick_stop {L : List Nat} {off k n m : Nat} (h : begins L off k m = false) : pick L off k (n + 1) m = m := by simp [pick, h]
theorem pick_le {L : List Nat} {off k : Nat} : ∀ n m, pick L off k n m ≤ m + n
  | 0, m => Nat.le_refl _
  | n + 1, m => by
    unfold pick
    split
    · have := pick_le (L := L) (off := off) (k := k) n (m + 1); omega
    · omega
theorem length_le_of_subset : ∀ (l l' : List Nat), l.Nodup → (∀ x ∈ l, x ∈ l') → l.length ≤ l'.length
  | [], _, _, _ => Nat.zero_le _
  | a :: r, l', hn, hs => by
    have ha := hs a (by simp)
    have h1 := List.nodup_cons.1 hn
    have h2 := length_le_of_subset r (l'.erase a) h1.2 (fun x hx => (List.mem_erase_of_ne (fun e => h1.1 (by rw [← e]; exact hx))).2 (hs x (by simp [hx])))
    have h3 := List.length_erase_of_mem ha
    have h4 := List.length_pos_of_mem ha
    simp only [List.length_cons]
    omega
/-- k sectors bar at most k masks. -/
theorem some_free (L : List Nat) (off k : Nat) : ∃ m, m ≤ k ∧ begins L off k m = false := by
  apply Classical.byContradiction
  intro hno
  have h1 : ∀ m, m ≤ k → begins L off k m = true := fun m hm => by
    cases h : begins L off k m
    · exact absurd ⟨m, hm, h⟩ hno
    · rfl
  -- each mask up to k is barred by a sector of its own
  have h2 : ∀ m, m ≤ k → ∃ i, i < k ∧ head2 L off i = 28516 ^^^ m := fun m hm => by
    have := h1 m hm
    simp only [begins, List.any_eq_true, List.mem_range, beq_iff_eq] at this
    exact this
  have h3 : (List.range (k + 1)).length ≤ (List.range k).length := by
    have h4 : ∀ m ∈ List.range (k + 1), 28516 ^^^ m ∈ (List.range k).map (head2 L off) := fun m hm => by
      obtain ⟨i, hi, e⟩ := h2 m (by have := List.mem_range.1 hm; omega)
      exact List.mem_map.2 ⟨i, List.mem_range.2 hi, e⟩
    have h5 : ((List.range (k + 1)).map (fun m => 28516 ^^^ m)).Nodup := by
      refine List.pairwise_map.2 (List.nodup_range.imp ?_)
      intro x y hne e
      have := congrArg (fun z => 28516 ^^^ z) e
      simp only [← Nat.xor_assoc, Nat.xor_self, Nat.zero_xor] at this
      exact hne this
    have h6 := length_le_of_subset ((List.range (k + 1)).map (fun m => 28516 ^^^ m)) ((List.range k).map (head2 L off)) h5 (fun z hz => by
      obtain ⟨m, hm, rfl⟩ := List.mem_map.1 hz
      exact h4 m hm)
    simpa using h6
  simp at h3
  omega
theorem pick_free {L : List Nat} {off k : Nat} : ∀ n m, (∃ q, m ≤ q ∧ q < m + n ∧ begins L off k q = false) → begins L off k (pick L off k n m) = false
  | 0, m, h => by obtain ⟨q, h1, h2, _⟩ := h; omega
  | n + 1, m, h => by
    unfold pick
    cases hb : begins L off k m
    · simpa using hb
    · rw [if_pos rfl]
      obtain ⟨q, h1, h2, h3⟩ := h
      refine pick_free n (m + 1) ⟨q, ?_, by omega, h3⟩
      rcases Nat.lt_or_ge m q with h | h
      · exact h
      · obtain rfl : q = m := by omega
        rw [hb] at h3; cases h3
theorem maskOf_free (L : List Nat) (off k : Nat) : begins L off k (maskOf L off k) = false := by
  obtain ⟨q, h1, h2⟩ := some_free L off k
  exact pick_free _ _ ⟨q, Nat.zero_le _, by omega, h2⟩
theorem maskOf_le (L : List Nat) (off k : Nat) : maskOf L off k ≤ k := by
  have hf := maskOf_free L off k
  have h1 := pick_le (L := L) (off := off) (k := k) (k + 1) 0
  unfold maskOf at *
  rcases Nat.lt_or_ge (pick L off k (k + 1) 0) (k + 1) with h | h
  · omega
  · exfalso
    -- the pick ran to its end: all k + 1 masks are barred
    obtain ⟨q, hq1, hq2⟩ := some_free L off k
    have key : ∀ n m, (∃ q, m ≤ q ∧ q < m + n ∧ begins L off k q = false) → pick L off k n m < m + n := by
      intro n
      induction n with
      | zero => intro m h; obtain ⟨q, h1, h2, _⟩ := h; omega
      | succ n ih =>
        intro m h
        unfold pick
        cases hb : begins L off k m
        · simp
        · rw [if_pos rfl]
          obtain ⟨q, h1, h2, h3⟩ := h
          have hmq : m + 1 ≤ q := by
            rcases Nat.lt_or_ge m q with h | h
            · exact h
            · obtain rfl : q = m := by omega
              rw [hb] at h3
              cases h3
          have := ih (m + 1) ⟨q, hmq, by omega, h3⟩
          omega
    have := key (k + 1) 0 ⟨q, Nat.zero_le _, by omega, hq2⟩
    omega
end Wal

set_option maxRecDepth 100000 in
set_option maxHeartbeats 800000 in
theorem chooseMask_any (w : World) (g off k c : Nat) (A : Option Addr) (L : List Nat) (h : Buf w g L) (hk : k ≤ 4096) (hA : Sects A g off k) (hc : 0 < k → c = 512 * k) (ho : off + 512 * k ≤ L.length) :
    Calls Tryz.prog 101 #[.slice A (512 * k) c] w fun e W' => e = .returned (.int .u64 (maskOf L off k : Nat)) ∧ Below w.heap.size w W' := by
  have H := Lib.hid h
  have BG := Lib.hid (fun (u : World) (m : Nat) (hu : Buf u g L) (hm : m < 18446744073709551616) => begins_any u g off k c A L m hu hk hA hc ho hm)
  have MF := Lib.hid (maskOf_free L off k)
  have ML := Lib.hid (maskOf_le L off k)
  clear h ho hA hc
  go_enter Tryz.func101, Tryz.ntmps101
  go_wp2_with fail
  go_loopw [3] (fun m wr => ∃ j : Nat, j ≤ k ∧ m = .int .u64 j ∧ Below w.heap.size w wr ∧ Hid (pick L off k (k + 1 - j) j = maskOf L off k)) (fun m _ => k - (intOf m).toNat)
  case atStart => exact ⟨0, by omega, rfl, Below.refl _ _, rfl⟩
  case round =>
    obtain ⟨j, hj, rfl, hB, hP⟩ := hrel
    have B := Lib.hid hB
    have C := Lib.hid (BG.out wr j (H.out.below hB H.out.lt) (by omega))
    clear hB
    obtain ⟨bb, hbb⟩ : ∃ bb, bb = begins L off k j := ⟨_, rfl⟩
    have EB := Lib.hid hbb
    rw [← hbb] at C
    clear hbb
    go_wp2_with fail
    refine C.out.mono ?_
    rintro e w1 ⟨rfl, hb1⟩
    have B1 : Hid (Below w.heap.size w w1) := B.out.trans (hb1.mono B.out.size)
    clear hb1 C
    obtain ⟨n, hn⟩ : ∃ n, k + 1 - j = n + 1 := ⟨k - j, by omega⟩
    rw [hn] at hP
    cases bb
    · have E : Hid (j = maskOf L off k) := by show _ = _; rw [← hP.out, pick_stop EB.out.symm]
      go_wp2_with fail
      go_ret
      exact ⟨by rw [← E.out]; rfl, B1.out⟩
    · have E : Hid (pick L off k n (j + 1) = maskOf L off k) := by show _ = _; rw [← hP.out, pick_step EB.out.symm]
      have hjk : j < k := by
        rcases Nat.lt_or_ge j k with h' | h'
        · exact h'
        · exfalso
          obtain rfl : j = k := by omega
          obtain rfl : n = 0 := by omega
          have h1 := ML.out
          rw [← E.out] at h1
          simp only [pick] at h1
          omega
      go_wp2_with fail
      go_roundw
      case rel => exact ⟨j + 1, by omega, by go_num, B1.out, by rw [show k + 1 - (j + 1) = n by omega]; exact E.out⟩
      case measure => simp [intOf]; omega
end Go.Proofs.YtkajneeihhobhaaGreat

namespace Go.Proofs.YtkajneeihhobhaaGreat
open Go.RowKit Go.Shelf Wal

/-- Sector x of those that are handed out. -/
def sectV (g off k x : Nat) : Value := .slice (some ⟨g, off + 512 * ix k x, none⟩) 512 512

theorem range_chunk (p q : Nat) {gop : Operand} {assign body : Code} {Q : Exit → Act → World → Prop} {a : Act} {w : World} (Bs Bn g off k c : Nat) (A : Option Addr)
    (hg : a.eval gop = .func (.func 99) #[] #[.pointer (some ⟨Bs, 0, none⟩), .pointer (some ⟨Bn, 0, none⟩)]) (hk : k ≤ 4096) (hA : Sects A g off k) (hc : 0 < k → c = 512 * k) (hBs : Bs < w.heap.size) (hBn : Bn < w.heap.size)
    (h1 : w.cell? ⟨Bs, 0, none⟩ = some (.slice A (512 * k) c)) (h2 : w.cell? ⟨Bn, 0, none⟩ = some (.int .i64 512))
    (I : List Nat → World → Prop) (Ix : Code → List Nat → World → Prop) (hI : OwnFrom w.heap.size I) (hIx : ∀ c, OwnFrom w.heap.size (Ix c)) (h0 : I [] w)
    (hassign : ∀ (l x : Nat) (W : World) (K : Act → World → Prop), K { tmps := (a.tmps.setIfInBounds q (sectV g off k x)).setIfInBounds p (sectV g off k x), defers := [] } W →
      assign.wpIn (Fence.wide.inRound l) 4 Tryz.prog (Exit.then K (fun _ _ _ => False)) { tmps := a.tmps.setIfInBounds q (sectV g off k x), defers := [] } W)
    (hbody : ∀ (l : Nat) (pre : List Nat) (x : Nat) (W : World), I pre W → pre.length < k → body.wpIn (Fence.wide.inRound l) 4 Tryz.prog (ownPostG w.heap.size (KpBox Bs Bn) I Ix (pre ++ [x]) W) { tmps := (a.tmps.setIfInBounds q (sectV g off k x)).setIfInBounds p (sectV g off k x), defers := [] } W)
    (hdone : ∀ (D : Nat) (W : World), w.heap.size ≤ D → I (List.range k) W → W.heap[D]? = some (.deferred (some [])) → Q .normal { a with defers := { target := .collected D, args := #[] } :: a.defers } W)
    (hstop : ∀ (D : Nat) (c : Code) (j : Nat) (W : World), w.heap.size ≤ D → j ≤ k → Ix c (List.range j) W → W.heap[D]? = some (.deferred (some [])) → c.wp Tryz.prog Q { a with defers := { target := .collected D, args := #[] } :: a.defers } W) :
    (Code.rangeFunc gop #[q] assign body).wp Tryz.prog Q a w := by
  refine (wpIn_wide (n := 6)).1 ?_
  refine wpIn_rangeFunc_ownG rfl (by omega) hg trivial (enters_of Tryz.func99 (by kernel_rfl) rfl)
    (chunk_stops Fence.wide _ trivial rfl (by omega) Bs Bn g off k c A hk hA hc w hBs hBn h1 h2) KpBox.t (KpBox.b hBs hBn) (Below.refl _ _) (fun _ => rfl) I Ix hI hIx h0
    (fun x => { tmps := (a.tmps.setIfInBounds q (sectV g off k x)).setIfInBounds p (sectV g off k x), defers := [] }) ?_ hbody ?_ ?_
  · intro l x W K hK
    have e : ∀ v : Value, ((#[q] : Array Tmp).zip #[v]).foldl (fun (t : Array Value) (x : Tmp × Value) => match x with | (p, v) => t.setIfInBounds p v) a.tmps = a.tmps.setIfInBounds q v := fun v => by simp
    rw [e]
    exact hassign l x W K hK
  · rintro D xs W hD rfl hi hd
    exact hdone D W hD hi hd
  · rintro D c pre W hD ⟨j, hj, rfl⟩ hi hd
    exact wpIn_wide.2 (hstop D c j W hD hj hi hd)
/-- Only old cells of a block, and new blocks, have turned: what is no cells lies as it lay. -/
theorem KeepsFrom.of_only {B : Nat} {F : List Nat} {W W' : World} (h : Only F W W') (hF : ∀ x ∈ F, x < B ∨ ∃ cs t mk, W.heap[x]? = some (.cells cs t mk)) : KeepsFrom B W W' :=
  ⟨h.size, fun k o hB hk hc => (h.block k (Array.getElem?_eq_some_iff.1 hk).1 (fun hm => by
    rcases hF k hm with h1 | ⟨cs, t, mk, h1⟩
    · omega
    · rw [hk] at h1
      injection h1 with h1
      rw [h1] at hc
      cases hc)).trans hk⟩
/-- 'Only F since w' abides the law's own book-keeping. -/
theorem ownFrom_only {β : Type} {F : List Nat} {w : World} : OwnFrom w.heap.size (fun (_ : β) W => Only F w W) :=
  fun _ _ _ _ hs hg hr => hs.grown hg (fun k hk => .inr (hr k hk).1)
end Go.Proofs.YtkajneeihhobhaaGreat
