/-
  space: the contracts of count, end and leastFree.
-/
import Derived.Test.YtaoldopkehbhkaaSp2
namespace Go.Proofs.Ytaoldopkehbhkaa
open Go.RowKit Go.Maps Wal

/-- How many numbers below n are in t. -/
def cntB (t : Nat → Bool) : Nat → Nat
  | 0 => 0
  | n + 1 => cntB t n + (if t n then 1 else 0)
theorem cntB_le (t : Nat → Bool) : ∀ n, cntB t n ≤ n
  | 0 => Nat.le_refl _
  | n + 1 => by
    have := cntB_le t n
    unfold cntB
    split <;> omega
def b01 (x : Bool) : Nat := if x then 1 else 0
theorem ones_bits : ∀ x : Fin 256, Lib.onesCount x.val = b01 (x.val.testBit 0) + b01 (x.val.testBit 1) + b01 (x.val.testBit 2) + b01 (x.val.testBit 3) + b01 (x.val.testBit 4) + b01 (x.val.testBit 5) + b01 (x.val.testBit 6) + b01 (x.val.testBit 7) := by decide +kernel
theorem Set8.ones {l : List Nat} {t : Nat → Bool} (h : Set8 l t) {i : Nat} (hi : i < 512) : cntB t (8 * (i + 1)) = cntB t (8 * i) + Lib.onesCount (l.getD i 0) := by
  have hb : ∀ j, j < 8 → (l.getD i 0).testBit j = t (8 * i + j) := fun j hj => by
    have := h.bit (8 * i + j) (by omega)
    rwa [show (8 * i + j) / 8 = i by omega, show (8 * i + j) % 8 = j by omega] at this
  rw [ones_bits ⟨_, h.lt i⟩]
  dsimp only
  rw [hb 0 (by omega), hb 1 (by omega), hb 2 (by omega), hb 3 (by omega), hb 4 (by omega), hb 5 (by omega), hb 6 (by omega), hb 7 (by omega)]
  rw [show 8 * (i + 1) = 8 * i + 1 + 1 + 1 + 1 + 1 + 1 + 1 + 1 by omega]
  simp only [cntB, b01, Nat.add_zero]
  omega
set_option maxRecDepth 100000 in
set_option maxHeartbeats 800000 in
theorem count_any (w : World) (g o : Nat) (l : List Nat) (t : Nat → Bool) (h : SetAt w g o l) (hl : Set8 l t) :
    Calls Try.prog 33 #[.pointer (some ⟨g, o, none⟩)] w fun e w' => e = .returned (.int .i64 (cntB t 4096 : Nat)) ∧ w = w' := by
  have HS := Lib.hid h
  have HL := Lib.hid hl
  clear h hl
  go_enter Try.func33, Try.ntmps33
  go_wp2_with fail
  go_loop [3, 7] (fun s i => ∃ k : Nat, k ≤ 512 ∧ i = .int .i64 (k : Nat) ∧ s = .int .i64 (cntB t (8 * k) : Nat)) (fun _ i => 512 - (intOf i).toNat)
  case atStart => exact ⟨0, by omega, rfl, rfl⟩
  case round =>
    obtain ⟨k, hk, rfl, rfl⟩ := hrel
    by_cases hlt : k < 512
    · have hlt' : (k : Int) < 512 := by omega
      obtain ⟨x, hx⟩ : ∃ x, x = l.getD k 0 := ⟨_, rfl⟩
      have c := HS.out.at_ k hlt
      rw [← hx] at c
      unfold u8v at c
      have O := Lib.hid (ones_any x w (by rw [hx]; exact HL.out.lt _))
      have E := Lib.hid (HL.out.ones hlt)
      rw [← hx] at E
      have hc := cntB_le t (8 * k)
      obtain ⟨cc, hcc⟩ : ∃ cc, cc = cntB t (8 * k) := ⟨_, rfl⟩
      rw [← hcc] at E hc ⊢
      have ho := Lib.onesCount_le8 ⟨x, by rw [hx]; exact HL.out.lt _⟩
      dsimp only at ho
      obtain ⟨oc, hoc⟩ : ∃ oc, oc = Lib.onesCount x := ⟨_, rfl⟩
      rw [← hoc] at O E ho
      have hcc9 : (cc : Int) ≤ 4096 := by omega
      have ho9 : (oc : Int) ≤ 8 := by omega
      clear hx hcc hoc
      go_wp2_with fail
      refine O.out.mono ?_
      rintro e w' ⟨rfl, rfl⟩
      go_wp2_with fail
      go_round
      case rel => exact ⟨k + 1, by omega, by go_num, by rw [E.out]; go_num⟩
      case measure => simp [intOf]; omega
    · obtain rfl : k = 512 := by omega
      go_wp2_with fail
      go_ret
      exact ⟨rfl, rfl⟩

theorem len_bits : ∀ (x : Fin 256) (j : Fin 8), (Lib.bitLen x.val ≤ j.val → x.val.testBit j.val = false) ∧ (Lib.bitLen x.val = j.val + 1 → x.val.testBit j.val = true) := by decide +kernel
theorem len_pos : ∀ x : Fin 256, x.val ≠ 0 → 1 ≤ Lib.bitLen x.val ∧ Lib.bitLen x.val ≤ 8 := by decide +kernel
theorem zero_bits (j : Nat) : (0 : Nat).testBit j = false := Nat.zero_testBit j
/-- e stands just behind the last number of t. -/
structure EndOf (t : Nat → Bool) (e : Nat) : Prop where
  most : e ≤ 4096
  off : ∀ b, e ≤ b → b < 4096 → t b = false
  on : e = 0 ∨ t (e - 1) = true
set_option maxRecDepth 100000 in
set_option maxHeartbeats 800000 in
theorem end_any (w : World) (g : Nat) (T : TypeId) (c : Nat) (l : List Nat) (t : Nat → Bool) (h : Held w g T (l.map u8v).toArray) (hl : Set8 l t) :
    Calls Try.prog 26 #[.slice (some ⟨g, 0, none⟩) 512 c] w fun e w' => (∃ n, e = .returned (.int .i64 (n : Nat)) ∧ EndOf t n) ∧ w = w' := by
  have HS : Hid (∀ k, k < 512 → w.cell? ⟨g, k, none⟩ = some (u8v (l.getD k 0))) := fun k hk => by
    have := (h.bts hl.blk).2.2 (by omega)
    obtain ⟨b, off, e, _, hc⟩ := this
    injection e with e
    injection e with e1 e2
    subst e1 e2
    have := hc k hk
    rwa [Nat.zero_add] at this
  have HL := Lib.hid hl
  clear h hl
  go_enter Try.func26, Try.ntmps26
  go_wp2_with fail
  go_loop [3] (fun i => ∃ k : Nat, k ≤ 512 ∧ i = .int .i64 ((k : Int) - 1) ∧ ∀ b, 8 * k ≤ b → b < 4096 → t b = false) (fun i => (intOf i + 1).toNat)
  case atStart => exact ⟨512, by omega, rfl, fun b h1 h2 => by omega⟩
  case round =>
    obtain ⟨k1, hk, rfl, hz⟩ := hrel
    have HZ := Lib.hid hz
    clear hz
    rcases Nat.eq_zero_or_pos k1 with h0 | h0
    · subst h0
      have R : Hid (EndOf t 0) := ⟨by omega, fun b _ hb => HZ.out b (by omega) hb, .inl rfl⟩
      go_wp2_with fail
      go_ret
      exact ⟨⟨0, rfl, R.out⟩, rfl⟩
    · obtain ⟨k, rfl⟩ : ∃ k, k1 = k + 1 := ⟨k1 - 1, by omega⟩
      have ek : ((k + 1 : Nat) : Int) - 1 = (k : Int) := by omega
      rw [ek]
      have hk9 : (k : Int) < 512 := by omega
      obtain ⟨x, hx⟩ : ∃ x, x = l.getD k 0 := ⟨_, rfl⟩
      have c := HS.out k (by omega)
      rw [← hx] at c
      unfold u8v at c
      have hx8 : x < 256 := by rw [hx]; exact HL.out.lt _
      have HB : Hid (∀ j, j < 8 → x.testBit j = t (8 * k + j)) := fun j hj => by
        have := HL.out.bit (8 * k + j) (by omega)
        rw [show (8 * k + j) / 8 = k by omega, show (8 * k + j) % 8 = j by omega, ← hx] at this
        exact this
      have O := Lib.hid (len8_any x w hx8)
      clear hx
      by_cases hx0 : x = 0
      · subst hx0
        have HZ' : Hid (∀ b, 8 * k ≤ b → b < 4096 → t b = false) := fun b h1 h2 => by
          rcases Nat.lt_or_ge b (8 * (k + 1)) with h3 | h3
          · have := HB.out (b - 8 * k) (by omega)
            rw [zero_bits, show 8 * k + (b - 8 * k) = b by omega] at this
            exact this.symm
          · exact HZ.out b h3 h2
        go_wp2_with fail
        go_round
        case rel => exact ⟨k, by omega, by go_num, HZ'.out⟩
        case measure => simp [intOf]
      · have hx1 : ((x : Int) != 0) = true := by simp; omega
        have hp := len_pos ⟨x, hx8⟩ hx0
        dsimp only at hp
        have HE : Hid (EndOf t (8 * k + Lib.bitLen x)) := by
          refine ⟨by omega, fun b h1 h2 => ?_, .inr ?_⟩
          · rcases Nat.lt_or_ge b (8 * (k + 1)) with h3 | h3
            · have h4 := HB.out (b - 8 * k) (by omega)
              rw [show 8 * k + (b - 8 * k) = b by omega] at h4
              rw [← h4]
              exact (len_bits ⟨x, hx8⟩ ⟨b - 8 * k, by omega⟩).1 (by dsimp only; omega)
            · exact HZ.out b h3 h2
          · have h4 := HB.out (Lib.bitLen x - 1) (by omega)
            rw [show 8 * k + Lib.bitLen x - 1 = 8 * k + (Lib.bitLen x - 1) by omega, ← h4]
            exact (len_bits ⟨x, hx8⟩ ⟨Lib.bitLen x - 1, by omega⟩).2 (by dsimp only; omega)
        obtain ⟨n, hn⟩ : ∃ n, n = Lib.bitLen x := ⟨_, rfl⟩
        rw [← hn] at O HE hp
        have hn9 : (n : Int) ≤ 8 := by omega
        clear hn
        go_wp2_with fail
        refine O.out.mono ?_
        rintro e w' ⟨rfl, rfl⟩
        go_wp2_with fail
        go_ret
        exact ⟨⟨8 * k + n, by go_num, HE.out⟩, rfl⟩

theorem ntz_bits : ∀ (x : Fin 256) (j : Fin 8), (j.val < Lib.trailingZeros8 x.val → x.val.testBit j.val = false) ∧ (Lib.trailingZeros8 x.val = j.val → x.val.testBit j.val = true) := by decide +kernel
theorem not_bits : ∀ (x : Fin 256) (j : Fin 8), (255 - x.val).testBit j.val = !x.val.testBit j.val := by decide +kernel
theorem or_bits {x y : Nat} (hx : x < 256) (hy : y < 256) : bits .or .u8 (x : Int) (y : Int) = ((x ||| y : Nat) : Int) ∧ x ||| y < 256 :=
  ⟨u8_or_nat _ _ hx hy, Nat.or_lt_two_pow (n := 8) hx hy⟩
theorem xor_not : ∀ z : Fin 256, bits .xor .u8 IntKind.u8.max (z.val : Int) = ((255 - z.val : Nat) : Int) := by decide +kernel
/-- e is the least number that is neither in t nor in o, or there is none. -/
structure FreeOf (t o : Nat → Bool) (e : Nat) : Prop where
  most : e ≤ 4096
  off : ∀ b, b < e → (t b || o b) = true
  on : e = 4096 ∨ (t e || o e) = false
/-- A map of n blocks at block g: the text l tells those that are taken, lo the old ones. -/
structure SMap (w : World) (g n : Nat) (l lo : List Nat) : Prop where
  n_ : w.cell? ⟨g, 0, none⟩ = some (.int .i64 (n : Int))
  tk : SetAt w g 1 l
  od : SetAt w g 513 lo
theorem SMap.lt {w : World} {g n : Nat} {l lo : List Nat} (h : SMap w g n l lo) : g < w.heap.size := block_lt h.n_
theorem SMap.only {w w' : World} {g n : Nat} {l lo H : List Nat} (h : SMap w g n l lo) (k : Only H w w') (hg : g ∉ H) : SMap w' g n l lo := ⟨(k.cell (p := ⟨g, 0, none⟩) h.lt hg).trans h.n_, h.tk.only k hg, h.od.only k hg⟩
theorem SMap.drewN {w : World} {g n : Nat} {l lo : List Nat} (h : SMap w g n l lo) (q : Nat) : SMap (w.drewN q) g n l lo := ⟨h.n_, h.tk.drewN q, h.od.drewN q⟩
set_option maxRecDepth 100000 in
set_option maxHeartbeats 800000 in
theorem least_any (w : World) (g n : Nat) (l lo : List Nat) (t o : Nat → Bool) (h : SMap w g n l lo) (hl : Set8 l t) (ho : Set8 lo o) :
    Calls Try.prog 28 #[.pointer (some ⟨g, 0, none⟩)] w fun e w' => (∃ n : Nat, e = .returned (.int .i64 (n : Nat)) ∧ FreeOf t o n) ∧ ∃ q, w' = w.drewN q := by
  have HS := Lib.hid h
  have HL := Lib.hid hl
  have HO := Lib.hid ho
  clear h hl ho
  go_enter Try.func28, Try.ntmps28
  go_wp2_with fail
  go_loopw [6] (fun i wr => ∃ k : Nat, k ≤ 512 ∧ i = .int .i64 (k : Nat) ∧ (∀ b, b < 8 * k → (t b || o b) = true) ∧ ∃ q, wr = w.drewN q) (fun i _ => 512 - (intOf i).toNat)
  case atStart => exact ⟨0, by omega, rfl, fun b h => by omega, 0, rfl⟩
  case round =>
    obtain ⟨k, hk, rfl, hz, q, hq⟩ := hrel
    have HZ := Lib.hid hz
    have HQ := Lib.hid hq
    clear hz
    by_cases hlt : k < 512
    · have hlt' : (k : Int) < 512 := by omega
      obtain ⟨x, hx⟩ : ∃ x, x = l.getD k 0 := ⟨_, rfl⟩
      obtain ⟨y, hy⟩ : ∃ y, y = lo.getD k 0 := ⟨_, rfl⟩
      have c1 : wr.cell? ⟨g, 1 + k, none⟩ = some (u8v (l.getD k 0)) := by rw [hq]; exact HS.out.tk.at_ k hlt
      have c2 : wr.cell? ⟨g, 513 + k, none⟩ = some (u8v (lo.getD k 0)) := by rw [hq]; exact HS.out.od.at_ k hlt
      rw [← hx] at c1
      rw [← hy] at c2
      unfold u8v at c1 c2
      have hx8 : x < 256 := by rw [hx]; exact HL.out.lt _
      have hy8 : y < 256 := by rw [hy]; exact HO.out.lt _
      obtain ⟨eo, hz8⟩ := or_bits hx8 hy8
      obtain ⟨z, hz⟩ : ∃ z, z = x ||| y := ⟨_, rfl⟩
      have HB : Hid (∀ j, j < 8 → z.testBit j = (t (8 * k + j) || o (8 * k + j))) := fun j hj => by
        have h1 := HL.out.bit (8 * k + j) (by omega)
        have h2 := HO.out.bit (8 * k + j) (by omega)
        rw [show (8 * k + j) / 8 = k by omega, show (8 * k + j) % 8 = j by omega] at h1 h2
        rw [← hx] at h1
        rw [← hy] at h2
        rw [hz, Nat.testBit_or, h1, h2]
      rw [← hz] at eo hz8
      clear hx hy hz hq
      go_wp2_with fail
      go_quiet (fail)
      have ex := xor_not ⟨z, hz8⟩
      dsimp only at ex
      have O := Lib.hid (ntz8_any (255 - z) (wr.drewN nq) (by omega))
      have hn8 := Lib.trailingZeros8_le8 ⟨255 - z, by omega⟩
      dsimp only at hn8
      have HN : Hid (∀ j, j < 8 → (j < Lib.trailingZeros8 (255 - z) → (t (8 * k + j) || o (8 * k + j)) = true) ∧ (Lib.trailingZeros8 (255 - z) = j → (t (8 * k + j) || o (8 * k + j)) = false)) := fun j hj => by
        have h1 := ntz_bits ⟨255 - z, by omega⟩ ⟨j, hj⟩
        dsimp only at h1
        rw [not_bits ⟨z, hz8⟩ ⟨j, hj⟩, HB.out j hj] at h1
        exact ⟨fun h => by have := h1.1 h; revert this; cases (t (8 * k + j) || o (8 * k + j)) <;> decide, fun h => by have := h1.2 h; revert this; cases (t (8 * k + j) || o (8 * k + j)) <;> decide⟩
      obtain ⟨e, he⟩ : ∃ e, e = Lib.trailingZeros8 (255 - z) := ⟨_, rfl⟩
      rw [← he] at O HN hn8
      have he9 : (e : Int) ≤ 8 := by omega
      have WQ : Hid (wr.drewN nq = w.drewN (q + nq)) := by show _ = _; rw [HQ.out]; exact World.drewN_drewN _ _ _
      clear he
      go_wp2_with fail
      refine O.out.mono ?_
      rintro e2 w' ⟨rfl, rfl⟩
      by_cases h8 : e < 8
      · have h8' : (e : Int) < 8 := by omega
        have R : Hid (FreeOf t o (8 * k + e)) := by
          refine ⟨by omega, fun b hb => ?_, .inr ((HN.out e h8).2 rfl)⟩
          rcases Nat.lt_or_ge b (8 * k) with h3 | h3
          · exact HZ.out b h3
          · have := (HN.out (b - 8 * k) (by omega)).1 (by omega)
            rwa [show 8 * k + (b - 8 * k) = b by omega] at this
        go_wp2_with fail
        go_ret
        exact ⟨⟨8 * k + e, by go_num, R.out⟩, _, WQ.out⟩
      · have h8' : ¬ (e : Int) < 8 := by omega
        have R : Hid (∀ b, b < 8 * (k + 1) → (t b || o b) = true) := fun b hb => by
          rcases Nat.lt_or_ge b (8 * k) with h3 | h3
          · exact HZ.out b h3
          · have := (HN.out (b - 8 * k) (by omega)).1 (by omega)
            rwa [show 8 * k + (b - 8 * k) = b by omega] at this
        go_wp2_with fail
        go_roundw
        case rel => exact ⟨k + 1, by omega, by go_num, R.out, _, WQ.out⟩
        case measure => simp [intOf]; omega
    · obtain rfl : k = 512 := by omega
      have R : Hid (FreeOf t o 4096) := ⟨by omega, fun b hb => HZ.out b (by omega), .inl rfl⟩
      go_wp2_with fail
      go_ret
      exact ⟨⟨4096, rfl, R.out⟩, q, rfl⟩
end Go.Proofs.Ytaoldopkehbhkaa
