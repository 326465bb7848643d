/-
  space: a set of blocks in memory; the contracts of its calls.
-/
import Derived.Test.YtaoldopkehbhkaaSp1
namespace Go.Proofs.Ytaoldopkehbhkaa
open Go.RowKit Go.Maps Wal

/-- The text l tells just the blocks of t. -/
structure Set8 (l : List Nat) (t : Nat → Bool) : Prop where
  blk : Blk l
  bit : ∀ b, b < 4096 → (l.getD (b / 8) 0).testBit (b % 8) = t b
/-- The text l lies at block g from offset o on, and may be written there. -/
structure SetAt (w : World) (g o : Nat) (l : List Nat) : Prop where
  at_ : ∀ i, i < 512 → w.cell? ⟨g, o + i, none⟩ = some (u8v (l.getD i 0))
  free : ∀ i, i < 512 → w.frozen? ⟨g, o + i, none⟩ = false
theorem Set8.lt {l : List Nat} {t : Nat → Bool} (h : Set8 l t) (i : Nat) : l.getD i 0 < 256 := by
  rw [List.getD_eq_getElem?_getD]
  rcases Nat.lt_or_ge i l.length with hi | hi
  · rw [List.getElem?_eq_getElem hi]; exact h.blk.bytes _ (List.getElem_mem hi)
  · rw [List.getElem?_eq_none hi]; decide
theorem SetAt.only {w w' : World} {g o : Nat} {l : List Nat} {H : List Nat} (h : SetAt w g o l) (k : Only H w w') (hg : g ∉ H) : SetAt w' g o l := by
  have hlt : g < w.heap.size := block_lt (h.at_ 0 (by omega))
  exact ⟨fun i hi => (k.cell (p := ⟨g, o + i, none⟩) hlt hg).trans (h.at_ i hi), fun i hi => (k.frozen (p := ⟨g, o + i, none⟩) hlt hg).trans (h.free i hi)⟩
theorem SetAt.drewN {w : World} {g o : Nat} {l : List Nat} (h : SetAt w g o l) (n : Nat) : SetAt (w.drewN n) g o l := ⟨h.at_, h.free⟩
/-- A byte of the set is stored. -/
theorem SetAt.store {w : World} {g o : Nat} {l : List Nat} (h : SetAt w g o l) (hl : l.length = 512) {i : Nat} (hi : i < 512) (x : Nat) : SetAt (w.setCell ⟨g, o + i, none⟩ (.int .u8 (x : Int))) g o (l.set i x) := by
  refine ⟨fun k hk => ?_, fun k hk => by rw [World.frozen?_setCell]; exact h.free k hk⟩
  by_cases e : k = i
  · subst e
    rw [World.cell?_setCell_same _ _ _ (h.at_ k hk), List.getD_eq_getElem?_getD, List.getElem?_set_self (by omega)]
    rfl
  · rw [World.cell?_setCell_other _ _ _ _ (fun h => e (by injection h with _ h2; omega)), h.at_ k hk, List.getD_eq_getElem?_getD, List.getD_eq_getElem?_getD, List.getElem?_set_ne (fun h => e h.symm)]
/-- Bit j of a byte, put out. -/
def clr (x j : Nat) : Nat := if x.testBit j then x - 2 ^ j else x
theorem byte_and : ∀ (x : Fin 256) (j : Fin 8), (bits .and .u8 (x.val : Int) ((2 : Int) ^ j.val) != 0) = x.val.testBit j.val := by decide +kernel
theorem byte_or : ∀ (x : Fin 256) (j : Fin 8), bits .or .u8 (x.val : Int) ((2 : Int) ^ j.val) = ((x.val ||| 2 ^ j.val : Nat) : Int) := by decide +kernel
theorem byte_clr : ∀ (x : Fin 256) (j : Fin 8), bits .andNot .u8 (x.val : Int) ((2 : Int) ^ j.val) = ((clr x.val j.val : Nat) : Int) := by decide +kernel
theorem or_lt : ∀ (x : Fin 256) (j : Fin 8), x.val ||| 2 ^ j.val < 256 := by decide +kernel
theorem clr_lt : ∀ (x : Fin 256) (j : Fin 8), clr x.val j.val < 256 := by decide +kernel
theorem or_bit : ∀ (x : Fin 256) (j k : Fin 8), (x.val ||| 2 ^ j.val).testBit k.val = (x.val.testBit k.val || decide (j = k)) := by decide +kernel
theorem clr_bit : ∀ (x : Fin 256) (j k : Fin 8), (clr x.val j.val).testBit k.val = (x.val.testBit k.val && !decide (j = k)) := by decide +kernel
/-- t, with b in it or not. -/
def putB (t : Nat → Bool) (b : Nat) (x : Bool) : Nat → Bool := fun i => if i = b then x else t i
theorem Set8.add {l : List Nat} {t : Nat → Bool} (h : Set8 l t) {b : Nat} (hb : b < 4096) : Set8 (l.set (b / 8) (l.getD (b / 8) 0 ||| 2 ^ (b % 8))) (putB t b true) := by
  have hx := h.lt (b / 8)
  refine ⟨⟨by rw [List.length_set]; exact h.blk.len, fun y hy => ?_⟩, fun k hk => ?_⟩
  · rcases List.mem_or_eq_of_mem_set hy with h1 | rfl
    · exact h.blk.bytes _ h1
    · exact or_lt ⟨_, hx⟩ ⟨b % 8, by omega⟩
  · have hl := h.blk.len
    have h0 := h.bit k hk
    rw [List.getD_eq_getElem?_getD] at h0 ⊢
    by_cases e : k / 8 = b / 8
    · rw [e, List.getElem?_set_self (by omega)]
      rw [e, ← List.getD_eq_getElem?_getD] at h0
      show (_ ||| _ : Nat).testBit _ = _
      rw [or_bit ⟨_, hx⟩ ⟨b % 8, by omega⟩ ⟨k % 8, by omega⟩]
      dsimp only
      rw [h0]
      unfold putB
      by_cases e2 : k = b
      · subst e2; simp
      · rw [if_neg e2]
        have : ¬ b % 8 = k % 8 := by omega
        simp [this]
    · rw [List.getElem?_set_ne (fun h => e h.symm), h0]
      unfold putB
      rw [if_neg (by rintro rfl; exact e rfl)]
theorem Set8.remove {l : List Nat} {t : Nat → Bool} (h : Set8 l t) {b : Nat} (hb : b < 4096) : Set8 (l.set (b / 8) (clr (l.getD (b / 8) 0) (b % 8))) (putB t b false) := by
  have hx := h.lt (b / 8)
  refine ⟨⟨by rw [List.length_set]; exact h.blk.len, fun y hy => ?_⟩, fun k hk => ?_⟩
  · rcases List.mem_or_eq_of_mem_set hy with h1 | rfl
    · exact h.blk.bytes _ h1
    · exact clr_lt ⟨_, hx⟩ ⟨b % 8, by omega⟩
  · have hl := h.blk.len
    have h0 := h.bit k hk
    rw [List.getD_eq_getElem?_getD] at h0 ⊢
    by_cases e : k / 8 = b / 8
    · rw [e, List.getElem?_set_self (by omega)]
      rw [e, ← List.getD_eq_getElem?_getD] at h0
      show (clr _ _).testBit _ = _
      rw [clr_bit ⟨_, hx⟩ ⟨b % 8, by omega⟩ ⟨k % 8, by omega⟩]
      dsimp only
      rw [h0]
      unfold putB
      by_cases e2 : k = b
      · subst e2; simp
      · rw [if_neg e2]
        have : ¬ b % 8 = k % 8 := by omega
        simp [this]
    · rw [List.getElem?_set_ne (fun h => e h.symm), h0]
      unfold putB
      rw [if_neg (by rintro rfl; exact e rfl)]
set_option maxRecDepth 100000 in
theorem bit_any (w : World) (b : Nat) (hb : b < 4096) :
    Calls Try.prog 40 #[.int .i64 (b : Int)] w fun e w' => e = .returned (.int .u8 ((2 ^ (b % 8) : Nat) : Int)) ∧ w = w' := by
  have e1 : ((b : Int)).tmod 8 = ((b % 8 : Nat) : Int) := by
    rw [Int.tmod_eq_emod_of_nonneg (by omega)]
    omega
  obtain ⟨j, hj⟩ : ∃ j, j = b % 8 := ⟨_, rfl⟩
  have hj8 : j < 8 := by omega
  have e2 : ∀ j : Nat, j < 8 → (2 : Int) ^ j % 256 = ((2 ^ j : Nat) : Int) := by decide
  have e3 := e2 j hj8
  rw [← hj] at e1 ⊢
  clear hj e2
  go_enter Try.func40, Try.ntmps40
  go_wp2_with fail
  go_ret
  exact ⟨by rw [← e3]; rfl, rfl⟩
set_option maxRecDepth 100000 in
theorem shas_any (w : World) (g o b : Nat) (l : List Nat) (t : Nat → Bool) (h : SetAt w g o l) (hl : Set8 l t) (hb : b < 4096) :
    Calls Try.prog 27 #[.pointer (some ⟨g, o, none⟩), .int .i64 (b : Int)] w fun e w' => e = .returned (.bool (t b)) ∧ ∃ q, w' = w.drewN q := by
  have e1 : ((b : Int)).tdiv 8 = ((b / 8 : Nat) : Int) := by
    rw [Int.tdiv_eq_ediv_of_nonneg (by omega)]
    omega
  have B : ∀ q, Hid (Calls Try.prog 40 #[.int .i64 (b : Int)] (w.drewN q) fun e w' => e = .returned (.int .u8 ((2 ^ (b % 8) : Nat) : Int)) ∧ w' = w.drewN q) := fun q => Lib.hid ((bit_any (w.drewN q) b hb).mono fun _ _ ⟨h1, h2⟩ => ⟨h1, h2.symm⟩)
  obtain ⟨x, hx⟩ : ∃ x, x = l.getD (b / 8) 0 := ⟨_, rfl⟩
  have hx8 : x < 256 := by rw [hx]; exact hl.lt _
  have c := h.at_ (b / 8) (by omega)
  rw [← hx] at c
  unfold u8v at c
  have ht := hl.bit b hb
  rw [← hx] at ht
  obtain ⟨i, hi⟩ : ∃ i, i = b / 8 := ⟨_, rfl⟩
  obtain ⟨j, hj⟩ : ∃ j, j = b % 8 := ⟨_, rfl⟩
  have hi9 : i < 512 := by omega
  have hi8 : (i : Int) < 512 := by omega
  have hj8 : j < 8 := by omega
  rw [← hi] at e1 c
  rw [← hj] at ht
  simp only [← hj] at B
  have hb8 : (b : Int) < 4096 := by omega
  clear h hl hx hi hj
  go_enter Try.func27, Try.ntmps27
  go_wp2_with fail
  go_quiet ((go_at_call 40; exact Calls.quiet_of_same (B _).out))
  go_wp2_with fail
  go_ret
  have hv := byte_and ⟨x, hx8⟩ ⟨j, hj8⟩
  dsimp only at hv
  rw [ht] at hv
  exact ⟨by show Ending.returned (.bool (bits .and .u8 (x : Int) ((2 : Int) ^ j) != 0)) = _; rw [hv], _, rfl⟩
set_option maxRecDepth 100000 in
set_option maxHeartbeats 800000 in
theorem sadd_any (w : World) (g o b : Nat) (l : List Nat) (t : Nat → Bool) (h : SetAt w g o l) (hl : Set8 l t) (hb : b < 4096) :
    Calls Try.prog 24 #[.pointer (some ⟨g, o, none⟩), .int .i64 (b : Int)] w fun e w' => e = .returned (.tuple #[]) ∧ Only [g] w w' ∧ (∀ k, (k < o ∨ o + 512 ≤ k) → w'.cell? ⟨g, k, none⟩ = w.cell? ⟨g, k, none⟩ ∧ w'.frozen? ⟨g, k, none⟩ = w.frozen? ⟨g, k, none⟩) ∧ ∃ l', SetAt w' g o l' ∧ Set8 l' (putB t b true) := by
  have e1 : ((b : Int)).tdiv 8 = ((b / 8 : Nat) : Int) := by
    rw [Int.tdiv_eq_ediv_of_nonneg (by omega)]
    omega
  have B := Lib.hid (bit_any w.drew b hb)
  obtain ⟨x, hx⟩ : ∃ x, x = l.getD (b / 8) 0 := ⟨_, rfl⟩
  have hx8 : x < 256 := by rw [hx]; exact hl.lt _
  have c := h.at_ (b / 8) (by omega)
  have z := h.free (b / 8) (by omega)
  rw [← hx] at c
  unfold u8v at c
  have H' := hl.add hb
  rw [← hx] at H'
  have HS := Lib.hid H'
  have SA : ∀ y, Hid (SetAt (w.setCell ⟨g, o + b / 8, none⟩ (.int .u8 (y : Nat))) g o (l.set (b / 8) y)) := fun y => Lib.hid (h.store hl.blk.len (by omega) y)
  have e4 := byte_or ⟨x, hx8⟩ ⟨b % 8, by omega⟩
  dsimp only at e4
  obtain ⟨i, hi⟩ : ∃ i, i = b / 8 := ⟨_, rfl⟩
  obtain ⟨j, hj⟩ : ∃ j, j = b % 8 := ⟨_, rfl⟩
  have hi9 : i < 512 := by omega
  have hi8 : (i : Int) < 512 := by omega
  rw [← hi] at e1 c z HS
  simp only [← hi] at SA
  rw [← hj] at e4 B HS
  have E4 := Lib.hid e4
  have hb8 : (b : Int) < 4096 := by omega
  have wri : IntKind.i64.wrap (i : Int) = (i : Int) := by rw [IntKind.wrap_i64]; omega
  clear h hl hx hi hj H' e4
  go_enter Try.func24, Try.ntmps24
  go_upto_region 0 with fail
  refine wp_region_noPanic ?_
  go_region_with (go_at_call 40; refine B.out.mono ?_; rintro e w' ⟨rfl, rfl⟩)
  all_goals
    refine NoPanic.normal ?_
    go_end0
    rw [E4.out]
    exact ⟨rfl, ((Only.refl _ w).setCell (.inl (by simp)) _).drew, fun k hk => ⟨World.cell?_setCell_other _ _ _ _ (fun h => by injection h with _ h2; omega), World.frozen?_setCell _ _ _ _⟩, _, ⟨(SA _).out.at_, (SA _).out.free⟩, HS.out⟩
set_option maxRecDepth 100000 in
set_option maxHeartbeats 800000 in
theorem sremove_any (w : World) (g o b : Nat) (l : List Nat) (t : Nat → Bool) (h : SetAt w g o l) (hl : Set8 l t) (hb : b < 4096) :
    Calls Try.prog 29 #[.pointer (some ⟨g, o, none⟩), .int .i64 (b : Int)] w fun e w' => e = .returned (.tuple #[]) ∧ Only [g] w w' ∧ (∀ k, (k < o ∨ o + 512 ≤ k) → w'.cell? ⟨g, k, none⟩ = w.cell? ⟨g, k, none⟩ ∧ w'.frozen? ⟨g, k, none⟩ = w.frozen? ⟨g, k, none⟩) ∧ ∃ l', SetAt w' g o l' ∧ Set8 l' (putB t b false) := by
  have e1 : ((b : Int)).tdiv 8 = ((b / 8 : Nat) : Int) := by
    rw [Int.tdiv_eq_ediv_of_nonneg (by omega)]
    omega
  have B := Lib.hid (bit_any w.drew b hb)
  obtain ⟨x, hx⟩ : ∃ x, x = l.getD (b / 8) 0 := ⟨_, rfl⟩
  have hx8 : x < 256 := by rw [hx]; exact hl.lt _
  have c := h.at_ (b / 8) (by omega)
  have z := h.free (b / 8) (by omega)
  rw [← hx] at c
  unfold u8v at c
  have H' := hl.remove hb
  rw [← hx] at H'
  have HS := Lib.hid H'
  have SA : ∀ y, Hid (SetAt (w.setCell ⟨g, o + b / 8, none⟩ (.int .u8 (y : Nat))) g o (l.set (b / 8) y)) := fun y => Lib.hid (h.store hl.blk.len (by omega) y)
  have e4 := byte_clr ⟨x, hx8⟩ ⟨b % 8, by omega⟩
  dsimp only at e4
  obtain ⟨i, hi⟩ : ∃ i, i = b / 8 := ⟨_, rfl⟩
  obtain ⟨j, hj⟩ : ∃ j, j = b % 8 := ⟨_, rfl⟩
  have hi9 : i < 512 := by omega
  have hi8 : (i : Int) < 512 := by omega
  rw [← hi] at e1 c z HS
  simp only [← hi] at SA
  rw [← hj] at e4 B HS
  have E4 := Lib.hid e4
  have hb8 : (b : Int) < 4096 := by omega
  have wri : IntKind.i64.wrap (i : Int) = (i : Int) := by rw [IntKind.wrap_i64]; omega
  clear h hl hx hi hj H' e4
  go_enter Try.func29, Try.ntmps29
  go_upto_region 0 with fail
  refine wp_region_noPanic ?_
  go_region_with (go_at_call 40; refine B.out.mono ?_; rintro e w' ⟨rfl, rfl⟩)
  all_goals
    refine NoPanic.normal ?_
    go_end0
    rw [E4.out]
    exact ⟨rfl, ((Only.refl _ w).setCell (.inl (by simp)) _).drew, fun k hk => ⟨World.cell?_setCell_other _ _ _ _ (fun h => by injection h with _ h2; omega), World.frozen?_setCell _ _ _ _⟩, _, ⟨(SA _).out.at_, (SA _).out.free⟩, HS.out⟩
end Go.Proofs.Ytaoldopkehbhkaa
