/-
  The document's own map (package docketref05) in memory, and the contracts of its calls.
-/
import Derived.Test.YtaoldopkehbhkaaSp6
namespace Go.Proofs.Ytaoldopkehbhkaa
open Go.RowKit Go.Maps Wal

/-- A row of n truths in block q: the truth of number i is t i. -/
structure Truths (w : World) (q n : Nat) (t : Nat → Bool) : Prop where
  at_ : ∀ i, i < n → w.cell? ⟨q, i, none⟩ = some (.bool (t i))
  free : ∀ i, i < n → w.frozen? ⟨q, i, none⟩ = false
section
variable {w w' : World} {q n : Nat} {t : Nat → Bool}
theorem Truths.of (h1 : ∀ i, i < n → w'.cell? ⟨q, i, none⟩ = w.cell? ⟨q, i, none⟩) (h2 : ∀ i, i < n → w'.frozen? ⟨q, i, none⟩ = w.frozen? ⟨q, i, none⟩) (h : Truths w q n t) : Truths w' q n t :=
  ⟨fun i hi => (h1 i hi).trans (h.at_ i hi), fun i hi => (h2 i hi).trans (h.free i hi)⟩
theorem Truths.lt (h : Truths w q n t) (hn : 0 < n) : q < w.heap.size := block_lt (h.at_ 0 hn)
theorem Truths.only {H : List Nat} (h : Truths w q n t) (k : Only H w w') (hq : q ∉ H) : Truths w' q n t := by
  rcases Nat.eq_zero_or_pos n with h0 | h0
  · subst h0
    exact ⟨fun i hi => by omega, fun i hi => by omega⟩
  · exact Truths.of (fun i _ => k.cell (p := ⟨q, i, none⟩) (h.lt h0) hq) (fun i _ => k.frozen (p := ⟨q, i, none⟩) (h.lt h0) hq) h
theorem Truths.drewN (h : Truths w q n t) (k : Nat) : Truths (w.drewN k) q n t := ⟨h.at_, h.free⟩
theorem Truths.set (h : Truths w q n t) {b : Nat} (hb : b < n) (x : Bool) : Truths (w.setCell ⟨q, b, none⟩ (.bool x)) q n (putB t b x) := by
  refine ⟨fun i hi => ?_, fun i hi => (World.frozen?_setCell _ _ _ _).trans (h.free i hi)⟩
  unfold putB
  by_cases e : i = b
  · subst e
    rw [if_pos rfl]
    exact World.cell?_setCell_same _ _ _ (h.at_ i hi)
  · rw [if_neg e, World.cell?_setCell_other _ _ _ _ (fun h => e (by injection h with _ h2; exact h2.symm))]
    exact h.at_ i hi
end

/-- The document's map of n blocks at g: its rows lie in q (taken) and r (old). -/
structure RMap (w : World) (g q r n c d : Nat) (t o : Nat → Bool) : Prop where
  blk : Held w g 46 #[.slice (some ⟨q, 0, none⟩) n c, .slice (some ⟨r, 0, none⟩) n d]
  now : Truths w q n t
  old : Truths w r n o
  gq : g ≠ q
  gr : g ≠ r
  qr : q ≠ r
  cap : n ≤ c
section
variable {w w' : World} {g q r n c d : Nat} {t o : Nat → Bool}
theorem RMap.only {H : List Nat} (h : RMap w g q r n c d t o) (k : Only H w w') (h1 : g ∉ H) (h2 : q ∉ H) (h3 : r ∉ H) : RMap w' g q r n c d t o :=
  ⟨h.blk.only k h1, h.now.only k h2, h.old.only k h3, h.gq, h.gr, h.qr, h.cap⟩
theorem RMap.drewN (h : RMap w g q r n c d t o) (k : Nat) : RMap (w.drewN k) g q r n c d t o := ⟨h.blk, h.now.drewN k, h.old.drewN k, h.gq, h.gr, h.qr, h.cap⟩
theorem RMap.set (h : RMap w g q r n c d t o) {b : Nat} (hb : b < n) (x : Bool) : RMap (w.setCell ⟨q, b, none⟩ (.bool x)) g q r n c d (putB t b x) o ∧ Only [q] w (w.setCell ⟨q, b, none⟩ (.bool x)) := by
  have k : Only [q] w (w.setCell ⟨q, b, none⟩ (.bool x)) := (Only.refl _ w).setCell (p := ⟨q, b, none⟩) (.inl (by simp)) _
  exact ⟨⟨h.blk.far (p := ⟨q, b, none⟩) h.gq _, h.now.set hb x, h.old.only k (by simpa using fun e => h.qr e.symm), h.gq, h.gr, h.qr, h.cap⟩, k⟩
end

set_option maxRecDepth 100000 in
theorem rused_any (w : World) (g q r n c d : Nat) (t o : Nat → Bool) (h : RMap w g q r n c d t o) (hn : n ≤ 4096) :
    Calls Try.prog 19 #[.pointer (some ⟨g, 0, none⟩)] w fun e w' => e = .returned (.int .i64 (cntB t n : Nat)) ∧ w = w' := by
  have HT := Lib.hid h.now.at_
  have c0 := h.blk.cell 0
  dsimp at c0
  have hn9 : (n : Int) ≤ 4096 := by omega
  clear h
  go_enter Try.func19, Try.ntmps19
  go_wp2_with fail
  go_loop [3, 4] (fun s i => ∃ k : Nat, k ≤ n ∧ i = .int .i64 (k : Nat) ∧ s = .int .i64 (cntB t k : Nat)) (fun _ i => n - (intOf i).toNat)
  case atStart => exact ⟨0, by omega, rfl, rfl⟩
  case round =>
    obtain ⟨k, hk, rfl, rfl⟩ := hrel
    have hc := cntB_le t k
    have E : Hid (cntB t (k + 1) = cntB t k + (if t k then 1 else 0)) := rfl
    obtain ⟨cc, hcc⟩ : ∃ cc, cc = cntB t k := ⟨_, rfl⟩
    rw [← hcc] at E hc ⊢
    by_cases hlt : k < n
    · have hlt' : (k : Int) < (n : Int) := by omega
      have hcc9 : (cc : Int) ≤ 4096 := by omega
      have ck := HT.out k hlt
      clear hcc
      cases ht : t k with
      | false =>
        rw [ht] at ck E
        go_wp2_with fail
        go_round
        case rel => exact ⟨k + 1, by omega, by go_num, by rw [E.out]; rfl⟩
        case measure => simp [intOf]; omega
      | true =>
        rw [ht] at ck E
        go_wp2_with fail
        go_round
        case rel => exact ⟨k + 1, by omega, by go_num, by rw [E.out]; go_num⟩
        case measure => simp [intOf]; omega
    · obtain rfl : k = n := by omega
      go_wp2_with fail
      go_ret
      exact ⟨rfl, rfl⟩

/-- What Free of the document's map answers and leaves. -/
def RFreed (w w' : World) (g q r n c d : Nat) (t o : Nat → Bool) (b : Int) (e : Ending) : Prop := Only [q] w w' ∧
      (((2 ≤ b ∧ b < (n : Int) ∧ t b.toNat = true) → e = .returned (.int .i64 0) ∧ RMap w' g q r n c d (putB t b.toNat false) o) ∧
       (¬ (2 ≤ b ∧ b < (n : Int) ∧ t b.toNat = true) → e = .returned (.int .i64 1) ∧ RMap w' g q r n c d t o))
theorem rfree_any (w : World) (g q r n c d : Nat) (t o : Nat → Bool) (b : Int) (h : RMap w g q r n c d t o) (hn : n ≤ 4096) :
    Calls Try.prog 12 #[.pointer (some ⟨g, 0, none⟩), .int .i64 b]  w fun e w' => RFreed w w' g q r n c d t o b e := by
  have HH := Lib.hid h
  have c0 := h.blk.cell 0
  dsimp at c0
  have HT := Lib.hid h.now.at_
  have HF := Lib.hid h.now.free
  clear h
  have hn9 : (n : Int) ≤ 4096 := by omega
  by_cases hb : b < 2
  · have R : Hid (¬ (2 ≤ b ∧ b < (n : Int) ∧ t b.toNat = true)) := fun h => by omega
    go_enter Try.func12, Try.ntmps12
    go_wp2_with fail
    go_ret
    unfold RFreed; exact ⟨Only.refl _ _, fun h => absurd h R.out, fun _ => ⟨rfl, HH.out⟩⟩
  · by_cases hb2 : b ≥ (n : Int)
    · have R : Hid (¬ (2 ≤ b ∧ b < (n : Int) ∧ t b.toNat = true)) := fun h => by omega
      go_enter Try.func12, Try.ntmps12
      go_wp2_with fail
      go_ret
      unfold RFreed; exact ⟨Only.refl _ _, fun h => absurd h R.out, fun _ => ⟨rfl, HH.out⟩⟩
    · obtain ⟨k, rfl⟩ : ∃ k : Nat, b = (k : Int) := ⟨b.toNat, by omega⟩
      have hk : k < n := by omega
      have ck := HT.out k hk
      have fk := HF.out k hk
      cases ht : t k with
      | false =>
        rw [ht] at ck
        have R : Hid (¬ (2 ≤ (k : Int) ∧ (k : Int) < (n : Int) ∧ t (k : Int).toNat = true)) := fun h => by
          have h2 := h.2.2
          rw [Int.toNat_natCast, ht] at h2
          cases h2
        go_enter Try.func12, Try.ntmps12
        go_wp2_with fail
        go_ret
        unfold RFreed; exact ⟨Only.refl _ _, fun h => absurd h R.out, fun _ => ⟨rfl, HH.out⟩⟩
      | true =>
        rw [ht] at ck
        have R : Hid (2 ≤ (k : Int) ∧ (k : Int) < (n : Int) ∧ t (k : Int).toNat = true) := ⟨by omega, by omega, by rw [Int.toNat_natCast]; exact ht⟩
        have S := Lib.hid (HH.out.set hk false)
        go_enter Try.func12, Try.ntmps12
        go_wp2_with fail
        go_ret
        unfold RFreed; exact ⟨S.out.2, fun _ => ⟨rfl, S.out.1⟩, fun h => absurd R.out h⟩

/-- b is the least number below n that is in neither set; n, where none is. -/
structure RFree (t o : Nat → Bool) (n b : Nat) : Prop where
  most : b ≤ n
  off : ∀ i, i < b → (t i || o i) = true
  on : b = n ∨ (t b || o b) = false
set_option maxRecDepth 100000 in
set_option maxHeartbeats 800000 in
theorem rtake_any (w : World) (g q r n c d : Nat) (t o : Nat → Bool) (h : RMap w g q r n c d t o) (hn : n ≤ 4096) :
    Calls Try.prog 10 #[.pointer (some ⟨g, 0, none⟩)] w fun e w' => Only [q] w w' ∧ ∃ b, RFree t o n b ∧
      ((b = n ∧ e = .returned (.tuple #[.int .i64 0, .int .i64 12]) ∧ RMap w' g q r n c d t o) ∨ (b < n ∧ e = .returned (.tuple #[.int .i64 (b : Nat), .int .i64 0]) ∧ RMap w' g q r n c d (putB t b true) o)) := by
  have HH := Lib.hid h
  have c0 := h.blk.cell 0
  have c1 := h.blk.cell 1
  dsimp at c0 c1
  have HT := Lib.hid h.now.at_
  have HF := Lib.hid h.now.free
  have HO := Lib.hid h.old.at_
  clear h
  have hn9 : (n : Int) ≤ 4096 := by omega
  go_enter Try.func10, Try.ntmps10
  go_wp2_with fail
  go_loop [4] (fun i => ∃ k : Nat, k ≤ n ∧ i = .int .i64 (k : Nat) ∧ ∀ j, j < k → (t j || o j) = true) (fun i => n - (intOf i).toNat)
  case atStart => exact ⟨0, by omega, rfl, fun j hj => by omega⟩
  case round =>
    obtain ⟨k, hk, rfl, hz⟩ := hrel
    have HZ := Lib.hid hz
    clear hz
    by_cases hlt : k < n
    · have hlt' : (k : Int) < (n : Int) := by omega
      have ck := HT.out k hlt
      have fk := HF.out k hlt
      have ok := HO.out k hlt
      cases ht : t k with
      | true =>
        rw [ht] at ck
        have Z : Hid (∀ j, j < k + 1 → (t j || o j) = true) := fun j hj => by
          rcases Nat.lt_or_ge j k with h | h
          · exact HZ.out j h
          · obtain rfl : j = k := by omega
            rw [ht, Bool.true_or]
        clear ht
        go_wp2_with fail
        go_round
        case rel => exact ⟨k + 1, by omega, by go_num, Z.out⟩
        case measure => simp [intOf]; omega
      | false =>
        rw [ht] at ck
        cases ho : o k with
        | true =>
          rw [ho] at ok
          have Z : Hid (∀ j, j < k + 1 → (t j || o j) = true) := fun j hj => by
            rcases Nat.lt_or_ge j k with h | h
            · exact HZ.out j h
            · obtain rfl : j = k := by omega
              rw [ho, Bool.or_true]
          clear ht ho
          go_wp2_with fail
          go_round
          case rel => exact ⟨k + 1, by omega, by go_num, Z.out⟩
          case measure => simp [intOf]; omega
        | false =>
          rw [ho] at ok
          have S := Lib.hid (HH.out.set hlt true)
          have R : Hid (RFree t o n k) := ⟨hk, HZ.out, .inr (by rw [ht, ho]; rfl)⟩
          clear ht ho
          go_wp2_with fail
          go_ret2
          exact ⟨S.out.2, k, R.out, .inr ⟨hlt, rfl, S.out.1⟩⟩
    · obtain rfl : k = n := by omega
      have R : Hid (RFree t o k k) := ⟨hk, HZ.out, .inl rfl⟩
      go_wp2_with fail
      go_ret2
      exact ⟨Only.refl _ _, k, R.out, .inl ⟨rfl, rfl, HH.out⟩⟩
end Go.Proofs.Ytaoldopkehbhkaa
