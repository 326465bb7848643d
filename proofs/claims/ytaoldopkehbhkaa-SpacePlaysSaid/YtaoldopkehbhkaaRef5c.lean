/-
  docketref05's Bytes.
-/
import Derived.Test.YtaoldopkehbhkaaRef5b
namespace Go.Proofs.Ytaoldopkehbhkaa
open Go.RowKit Go.Maps Wal

theorem RMap.under {w w' : World} {g q r n c d : Nat} {t o : Nat → Bool} (h : RMap w g q r n c d t o) (k : Below w.heap.size w w') : RMap w' g q r n c d t o := h.only (Only.of_below (F := []) k) (by simp) (by simp) (by simp)
theorem zeros_at (w : World) : SetAt (w.alloc (.cells (madeCells #[.int .u8 0] 512) 5)) w.heap.size 0 (sec []) := by
  have H := Held.new w 5 (madeCells #[.int .u8 0] 512) rfl
  refine ⟨fun i hi => ?_, fun i _ => H.frozen _⟩
  have e : (sec []).getD i 0 = 0 := by
    rw [sec_short (by decide), List.nil_append, List.length_nil, Nat.sub_zero, List.getD_eq_getElem?_getD, List.getElem?_replicate, if_pos hi]
    rfl
  rw [H.cell, Nat.zero_add, ← Array.getElem?_toList, toList_madeCells_one, List.getElem?_replicate, if_pos hi, e]
  rfl
theorem SetAt.bts {w : World} {p : Nat} {l : List Nat} (h : SetAt w p 0 l) (hl : Blk l) : Bts w (some ⟨p, 0, none⟩) 512 l :=
  ⟨hl.len, hl.bytes, fun _ => ⟨p, 0, rfl, block_lt (h.at_ 0 (by omega)), fun i hi => h.at_ i hi⟩⟩
theorem add_or : ∀ (x : Fin 256) (j : Fin 8), x.val.testBit j.val = false → x.val + 2 ^ j.val = x.val ||| 2 ^ j.val := by decide +kernel
/-- The numbers below k of t. -/
def cut (t : Nat → Bool) (k : Nat) : Nat → Bool := fun b => t b && decide (b < k)
theorem cut_off {t : Nat → Bool} {k : Nat} (h : t k = false) : cut t (k + 1) = cut t k := by
  funext b
  unfold cut
  by_cases e : b = k
  · subst e; rw [h]; simp
  · congr 1
    exact decide_eq_decide.2 (by omega)
theorem cut_on {t : Nat → Bool} {k : Nat} (h : t k = true) : cut t (k + 1) = putB (cut t k) k true := by
  funext b
  unfold putB cut
  by_cases e : b = k
  · subst e; rw [h]; simp
  · rw [if_neg e]
    congr 1
    exact decide_eq_decide.2 (by omega)
set_option maxRecDepth 100000 in
set_option maxHeartbeats 1600000 in
theorem rbytes_any (w : World) (g q r n c d : Nat) (t o : Nat → Bool) (h : RMap w g q r n c d t o) (hn : n ≤ 4096) :
    Calls Try.prog 16 #[.pointer (some ⟨g, 0, none⟩)] w fun e w' => (∃ l, e = .returned (.string (strB l)) ∧ Set8 l (cut t n)) ∧ Below w.heap.size w w' := by
  have HH := Lib.hid h
  have c0 := h.blk.cell 0
  dsimp at c0
  have hmk : ∀ u, (Instr.makeSlice 48 (.int .i64 512) (.int .i64 512)).run Try.prog u = .ok (.slice (some ⟨u.heap.size, 0, none⟩) 512 512) (u.alloc (.cells (madeCells #[.int .u8 0] 512) 5)) := fun u => run_make_bts byteT 512 (by omega) .i64 .i64 u
  have hn9 : (n : Int) ≤ 4096 := by omega
  clear h
  go_enter Try.func16, Try.ntmps16
  go_upto_region 2 with fail
  have R0 : Hid (SetAt (w.alloc (.cells (madeCells #[.int .u8 0] 512) 5)) w.heap.size 0 (sec []) ∧ Below w.heap.size w (w.alloc (.cells (madeCells #[.int .u8 0] 512) 5))) := ⟨zeros_at w, (Below.refl _ _).alloc (Nat.le_refl _) _⟩
  generalize World.alloc _ _ = w1 at R0 ⊢
  obtain ⟨p, hp⟩ : ∃ p, p = w.heap.size := ⟨_, rfl⟩
  have P0 : Hid (SetAt w1 p 0 (sec []) ∧ w.heap.size ≤ p) := ⟨by rw [hp]; exact R0.out.1, by omega⟩
  have B0 := Lib.hid R0.out.2
  rw [← hp]
  clear hmk c0 R0 hp
  go_wp2_with fail
  go_loopw [4] (fun i wr => ∃ k : Nat, ∃ l, k ≤ n ∧ i = .int .i64 (k : Nat) ∧ SetAt wr p 0 l ∧ Set8 l (cut t k) ∧ Below w.heap.size w wr) (fun i _ => n - (intOf i).toNat)
  case atStart => exact ⟨0, _, by omega, rfl, P0.out.1, Set8.zero.congr (fun b _ => by simp [cut]), B0.out⟩
  case round =>
    obtain ⟨k, l, hk, rfl, hs, hl, hb⟩ := hrel
    have HS := Lib.hid hs
    have HL := Lib.hid hl
    have HB := Lib.hid hb
    have M := HH.out.under hb
    have c0 := M.blk.cell 0
    dsimp at c0
    clear hs hl hb B0
    by_cases hlt : k < n
    · have hlt' : (k : Int) < (n : Int) := by omega
      have ck := M.now.at_ k hlt
      clear M
      cases ht : t k with
      | false =>
        rw [ht] at ck
        have E : Hid (Set8 l (cut t (k + 1))) := by show Set8 l _; rw [cut_off ht]; exact HL.out
        clear ht
        go_wp2_with fail
        go_roundw
        case rel => exact ⟨k + 1, l, by omega, by go_num, HS.out, E.out, HB.out⟩
        case measure => simp [intOf]; omega
      | true =>
        rw [ht] at ck
        obtain ⟨x, hx⟩ : ∃ x, x = l.getD (k / 8) 0 := ⟨_, rfl⟩
        have hx8 : x < 256 := by rw [hx]; exact HL.out.lt _
        have cx := HS.out.at_ (k / 8) (by omega)
        have zx := HS.out.free (k / 8) (by omega)
        rw [← hx] at cx
        unfold u8v at cx
        rw [Nat.zero_add] at cx zx
        have H' := HL.out.add (b := k) (by omega)
        rw [← hx, ← cut_on ht] at H'
        have hbit : x.testBit (k % 8) = false := by
          rw [hx, HL.out.bit k (by omega)]
          simp [cut]
        have e4 := add_or ⟨x, hx8⟩ ⟨k % 8, by omega⟩ hbit
        have e5 := or_lt ⟨x, hx8⟩ ⟨k % 8, by omega⟩
        dsimp only at e4 e5
        rw [← e4] at H' e5
        have N' := HS.out.store HL.out.blk.len (i := k / 8) (by omega) (x + 2 ^ (k % 8))
        rw [Nat.zero_add] at N'
        have e8 : ((x + 2 ^ (k % 8) : Nat) : Int) = (x : Int) + 2 ^ (k % 8) := by
          have e7 := (show ∀ j : Nat, j < 8 → (2 : Int) ^ j = ((2 ^ j : Nat) : Int) by decide) (k % 8) (by omega)
          rw [e7]
          generalize 2 ^ (k % 8) = y at *
          omega
        rw [e8] at N'
        have N := Lib.hid (N'.drewN 1)
        have H1 := Lib.hid H'
        have e1 : ((k : Int)).tdiv 8 = ((k / 8 : Nat) : Int) := by
          rw [Int.tdiv_eq_ediv_of_nonneg (by omega)]
          omega
        have e2 : ((k : Int)).tmod 8 = ((k % 8 : Nat) : Int) := by
          rw [Int.tmod_eq_emod_of_nonneg (by omega)]
          omega
        have e3 := (show ∀ j : Nat, j < 8 → (2 : Int) ^ j % 256 = ((2 ^ j : Nat) : Int) by decide) (k % 8) (by omega)
        have E6 : Hid (((x : Int) + 2 ^ (k % 8)) % 256 = ((x + 2 ^ (k % 8) : Nat) : Int)) := by
          show _ = _
          have e7 := (show ∀ j : Nat, j < 8 → (2 : Int) ^ j = ((2 ^ j : Nat) : Int) by decide) (k % 8) (by omega)
          rw [e7]
          generalize 2 ^ (k % 8) = y at *
          omega
        have hpw : w.heap.size ≤ p := P0.out.2
        have W2 := Lib.hid ((HB.out.setCell (p := ⟨p, k / 8, none⟩) hpw (.int .u8 ((x : Int) + 2 ^ (k % 8)))).drew)
        have wri : IntKind.i64.wrap ((k / 8 : Nat) : Int) = ((k / 8 : Nat) : Int) := by rw [IntKind.wrap_i64]; omega
        have hj8 : k % 8 < 8 := by omega
        have hi9 : k / 8 < 512 := by omega
        have hi8 : ((k / 8 : Nat) : Int) < 512 := by omega
        generalize k / 8 = i at *
        generalize k % 8 = j at *
        clear hx H' N' ht hbit e4 e8
        go_wp2_with fail
        go_region
        rw [E6.out]
        go_wp2_with fail
        go_roundw
        case rel => exact ⟨k + 1, _, by omega, by go_num, N.out, H1.out, W2.out⟩
        case measure => simp [intOf]; omega
    · obtain rfl : k = n := by omega
      have T := Lib.hid ((HS.out.bts HL.out.blk).toStr byteT Try.underlying9 512)
      have T2 := T.out
      clear M
      go_wp2_with fail
      go_ret
      exact ⟨⟨l, rfl, HL.out⟩, HB.out⟩
end Go.Proofs.Ytaoldopkehbhkaa
