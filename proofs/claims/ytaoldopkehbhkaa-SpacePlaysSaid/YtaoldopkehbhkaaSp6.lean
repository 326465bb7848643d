/-
  space: the contracts of a map's calls.
-/
import Derived.Test.YtaoldopkehbhkaaSp5
namespace Go.Proofs.Ytaoldopkehbhkaa
open Go.RowKit Go.Maps Wal

/-- A map of n blocks at g: t are taken, o were taken when it was loaded. -/
def MapOf (w : World) (g n : Nat) (t o : Nat → Bool) : Prop := ∃ l lo, SMap w g n l lo ∧ Set8 l t ∧ Set8 lo o
section
variable {w w' : World} {g n : Nat} {t o : Nat → Bool}
theorem MapOf.only {H : List Nat} (h : MapOf w g n t o) (k : Only H w w') (hg : g ∉ H) : MapOf w' g n t o := by
  obtain ⟨l, lo, h1, h2, h3⟩ := h
  exact ⟨l, lo, h1.only k hg, h2, h3⟩
theorem MapOf.under (h : MapOf w g n t o) (k : Below w.heap.size w w') : MapOf w' g n t o := h.only (Only.of_below (F := []) k) (by simp)
theorem MapOf.drewN (h : MapOf w g n t o) (q : Nat) : MapOf (w.drewN q) g n t o := h.only ((Only.refl [] w).drewN q) (by simp)
theorem MapOf.lt (h : MapOf w g n t o) : g < w.heap.size := by
  obtain ⟨l, lo, h1, h2, h3⟩ := h
  exact h1.lt
theorem MapOf.n_ (h : MapOf w g n t o) : w.cell? ⟨g, 0, none⟩ = some (.int .i64 (n : Int)) := by
  obtain ⟨l, lo, h1, h2, h3⟩ := h
  exact h1.n_
/-- The taken set was turned. -/
theorem MapOf.turn {l lo l' : List Nat} {t' : Nat → Bool} (h : SMap w g n l lo) (hlo : Set8 lo o) (hf : ∀ k, (k < 1 ∨ 1 + 512 ≤ k) → w'.cell? ⟨g, k, none⟩ = w.cell? ⟨g, k, none⟩ ∧ w'.frozen? ⟨g, k, none⟩ = w.frozen? ⟨g, k, none⟩)
    (hs : SetAt w' g 1 l') (hl : Set8 l' t') : MapOf w' g n t' o :=
  ⟨l', lo, ⟨(hf 0 (by omega)).1.trans h.n_, hs, ⟨fun i hi => (hf _ (by omega)).1.trans (h.od.at_ i hi), fun i hi => (hf _ (by omega)).2.trans (h.od.free i hi)⟩⟩, hl, hlo⟩
end
set_option maxRecDepth 100000 in
set_option maxHeartbeats 800000 in
theorem take_any (w : World) (g n : Nat) (t o : Nat → Bool) (h : MapOf w g n t o) (hn : n ≤ 4096) :
    Calls Try.prog 9 #[.pointer (some ⟨g, 0, none⟩)] w fun e w' => Only [g] w w' ∧ ∃ b, FreeOf t o b ∧
      ((n ≤ b ∧ e = .returned (.tuple #[.int .i64 0, .int .i64 12]) ∧ MapOf w' g n t o) ∨ (b < n ∧ e = .returned (.tuple #[.int .i64 (b : Nat), .int .i64 0]) ∧ MapOf w' g n (putB t b true) o)) := by
  have HH := Lib.hid h
  obtain ⟨l, lo, h1, h2, h3⟩ := h
  have LS := Lib.hid (least_any w g n l lo t o h1 h2 h3)
  have H1 := Lib.hid h1
  have H2 := Lib.hid h2
  have H3 := Lib.hid h3
  have hn9 : (n : Int) ≤ 4096 := by omega
  clear h1 h2 h3
  go_enter Try.func9, Try.ntmps9
  go_wp2_with fail
  refine LS.out.mono ?_
  rintro e w1 ⟨⟨b, rfl, hF⟩, q, hw1⟩
  have HF := Lib.hid hF
  have c0 : w1.cell? ⟨g, 0, none⟩ = some (.int .i64 (n : Int)) := by rw [hw1]; exact H1.out.n_
  have S1 : Hid (SMap w1 g n l lo ∧ Only [g] w w1) := by rw [hw1]; exact ⟨H1.out.drewN q, (Only.refl _ w).drewN q⟩
  clear hF LS hw1
  by_cases hb : n ≤ b
  · have hb' : (b : Int) ≥ (n : Int) := by omega
    have M : Hid (MapOf w1 g n t o) := ⟨l, lo, S1.out.1, H2.out, H3.out⟩
    go_wp2_with fail
    go_ret2
    exact ⟨S1.out.2, b, HF.out, .inl ⟨hb, rfl, M.out⟩⟩
  · have hb' : ¬ (b : Int) ≥ (n : Int) := by omega
    have hb9 : b < n := by omega
    have AD := Lib.hid (sadd_any w1 g 1 b l t S1.out.1.tk H2.out (by omega))
    go_wp2_with fail
    refine AD.out.mono ?_
    rintro e w2 ⟨rfl, ho, hf, l', hs', hl'⟩
    have M : Hid (MapOf w2 g n (putB t b true) o ∧ Only [g] w w2) := ⟨MapOf.turn S1.out.1 H3.out hf hs' hl', S1.out.2.trans ho (fun x hx => .inl hx)⟩
    clear ho hf hs' hl' AD
    go_wp2_with fail
    go_ret2
    exact ⟨M.out.2, b, HF.out, .inr ⟨hb9, rfl, M.out.1⟩⟩
set_option maxRecDepth 100000 in
set_option maxHeartbeats 800000 in
theorem mhas_any (w : World) (g n : Nat) (t o : Nat → Bool) (b : Int) (h : MapOf w g n t o) (hn : n ≤ 4096) :
    Calls Try.prog 13 #[.pointer (some ⟨g, 0, none⟩), .int .i64 b] w fun e w' => e = .returned (.bool (decide (0 ≤ b ∧ b < (n : Int)) && t b.toNat)) ∧ ∃ q, w' = w.drewN q := by
  have c0 := h.n_
  obtain ⟨l, lo, h1, h2, h3⟩ := h
  have H1 := Lib.hid h1
  have H2 := Lib.hid h2
  clear h1 h2 h3
  by_cases hb : 0 ≤ b
  · by_cases hb2 : b < (n : Int)
    · obtain ⟨k, rfl⟩ : ∃ k : Nat, b = (k : Int) := ⟨b.toNat, by omega⟩
      have e1 : decide (0 ≤ (k : Int) ∧ (k : Int) < (n : Int)) = true := decide_eq_true ⟨hb, hb2⟩
      have SH := shas_any w g 1 k l t H1.out.tk H2.out (by omega)
      obtain ⟨x, hx⟩ : ∃ x, x = t k := ⟨_, rfl⟩
      rw [← hx] at SH
      have SH := Lib.hid SH
      rw [e1, Int.toNat_natCast, Bool.true_and, ← hx]
      clear hx e1
      go_enter Try.func13, Try.ntmps13
      go_wp2_with fail
      refine SH.out.mono ?_
      rintro e w1 ⟨rfl, q, rfl⟩
      go_wp2_with fail
      go_ret
      exact ⟨rfl, q, rfl⟩
    · have e1 : decide (0 ≤ b ∧ b < (n : Int)) = false := decide_eq_false (fun h => hb2 h.2)
      rw [e1, Bool.false_and]
      clear e1
      go_enter Try.func13, Try.ntmps13
      go_wp2_with fail
      go_ret
      exact ⟨rfl, 0, rfl⟩
  · have e1 : decide (0 ≤ b ∧ b < (n : Int)) = false := decide_eq_false (fun h => hb h.1)
    have hb' : ¬ b ≥ 0 := hb
    rw [e1, Bool.false_and]
    clear e1
    go_enter Try.func13, Try.ntmps13
    go_wp2_with fail
    go_ret
    exact ⟨rfl, 0, rfl⟩
set_option maxRecDepth 100000 in
theorem used_any (w : World) (g n : Nat) (t o : Nat → Bool) (h : MapOf w g n t o) :
    Calls Try.prog 18 #[.pointer (some ⟨g, 0, none⟩)] w fun e w' => e = .returned (.int .i64 (cntB t 4096 : Nat)) ∧ w = w' := by
  obtain ⟨l, lo, h1, h2, h3⟩ := h
  have C := Lib.hid (count_any w g 1 l t h1.tk h2)
  clear h1 h2 h3
  go_enter Try.func18, Try.ntmps18
  go_wp2_with fail
  refine C.out.mono ?_
  rintro e w1 ⟨rfl, rfl⟩
  go_wp2_with fail
  go_ret
  exact ⟨rfl, rfl⟩
set_option maxRecDepth 100000 in
set_option maxHeartbeats 800000 in
theorem free_any (w : World) (g n : Nat) (t o : Nat → Bool) (b : Int) (h : MapOf w g n t o) (hn : n ≤ 4096) :
    Calls Try.prog 11 #[.pointer (some ⟨g, 0, none⟩), .int .i64 b] w fun e w' => Only [g] w w' ∧
      (((2 ≤ b ∧ b < (n : Int) ∧ t b.toNat = true) → e = .returned (.int .i64 0) ∧ MapOf w' g n (putB t b.toNat false) o) ∧
       (¬ (2 ≤ b ∧ b < (n : Int) ∧ t b.toNat = true) → e = .returned (.int .i64 1) ∧ MapOf w' g n t o)) := by
  have HH := Lib.hid h
  have MH := mhas_any w g n t o b h hn
  obtain ⟨l, lo, h1, h2, h3⟩ := h
  have H1 := Lib.hid h1
  have H2 := Lib.hid h2
  have H3 := Lib.hid h3
  clear h1 h2 h3
  by_cases hb : b < 2
  · have R : Hid (¬ (2 ≤ b ∧ b < (n : Int) ∧ t b.toNat = true)) := fun h => by omega
    clear MH
    go_enter Try.func11, Try.ntmps11
    go_wp2_with fail
    go_ret
    exact ⟨Only.refl _ _, fun h => absurd h R.out, fun _ => ⟨rfl, HH.out⟩⟩
  · cases hx : (decide (0 ≤ b ∧ b < (n : Int)) && t b.toNat) with
    | false =>
      rw [hx] at MH
      have MH := Lib.hid MH
      have R : Hid (¬ (2 ≤ b ∧ b < (n : Int) ∧ t b.toNat = true)) := fun h => by
        rw [decide_eq_true (show 0 ≤ b ∧ b < (n : Int) by omega), h.2.2] at hx
        cases hx
      clear hx
      go_enter Try.func11, Try.ntmps11
      go_wp2_with fail
      refine MH.out.mono ?_
      rintro e w1 ⟨rfl, q, rfl⟩
      go_wp2_with fail
      go_ret
      exact ⟨(Only.refl _ _).drewN q, fun h => absurd h R.out, fun _ => ⟨rfl, HH.out.drewN q⟩⟩
    | true =>
      rw [hx] at MH
      have MH := Lib.hid MH
      rw [Bool.and_eq_true, decide_eq_true_eq] at hx
      obtain ⟨k, rfl⟩ : ∃ k : Nat, b = (k : Int) := ⟨b.toNat, by omega⟩
      rw [Int.toNat_natCast] at hx ⊢
      have R : Hid (2 ≤ (k : Int) ∧ (k : Int) < (n : Int) ∧ t k = true) := ⟨by omega, hx.1.2, hx.2⟩
      have hk : k < 4096 := by omega
      have RM : ∀ q, Hid (Calls Try.prog 29 #[.pointer (some ⟨g, 1, none⟩), .int .i64 (k : Int)] (w.drewN q) fun e w' => e = .returned (.tuple #[]) ∧ MapOf w' g n (putB t k false) o ∧ Only [g] w w') := fun q =>
        Lib.hid ((sremove_any (w.drewN q) g 1 k l t (H1.out.drewN q).tk H2.out hk).mono fun _ _ ⟨h1, h2, h3, l', h4, h5⟩ => ⟨h1, MapOf.turn (H1.out.drewN q) H3.out h3 h4 h5, ((Only.refl _ w).drewN q).trans h2 (fun _ hx => .inl hx)⟩)
      clear hx
      go_enter Try.func11, Try.ntmps11
      go_wp2_with fail
      refine MH.out.mono ?_
      rintro e w1 ⟨rfl, q, rfl⟩
      go_wp2_with fail
      refine (RM q).out.mono ?_
      rintro e w2 ⟨rfl, hm, ho⟩
      have M : Hid (MapOf w2 g n (putB t k false) o ∧ Only [g] w w2) := ⟨hm, ho⟩
      clear hm ho RM
      go_wp2_with fail
      go_ret
      exact ⟨M.out.2, fun _ => ⟨rfl, M.out.1⟩, fun h => absurd R.out h⟩
set_option maxRecDepth 100000 in
set_option maxHeartbeats 800000 in
theorem mstore_any (w : World) (g n : Nat) (t o : Nat → Bool) (P : PS) (tx tm : Nat) (f : Nat → Option (List Nat)) (h : MapOf w g n t o) (hp : Pages w P tx tm f) :
    Calls Try.prog 14 #[.pointer (some ⟨g, 0, none⟩), ifc tx] w fun e w' => e = .returned (.int .i64 0) ∧ Only [P.p, tm] w w' ∧ ∃ l, Set8 l t ∧ Pages w' P tx tm (upd f 0 l) := by
  obtain ⟨l, lo, h1, h2, h3⟩ := h
  have SW := Lib.hid (swrite_any w g 1 l P tx tm f h1.tk h2.blk hp)
  have H2 := Lib.hid h2
  clear h1 h2 h3 hp
  unfold ifc at *
  go_enter Try.func14, Try.ntmps14
  go_wp2_with fail
  refine SW.out.mono ?_
  rintro e w1 ⟨rfl, hp1, ho1⟩
  have R : Hid (Pages w1 P tx tm (upd f 0 l) ∧ Only [P.p, tm] w w1) := ⟨hp1, ho1⟩
  clear hp1 ho1 SW
  go_wp2_with fail
  go_ret
  exact ⟨rfl, R.out.2, l, H2.out, R.out.1⟩
end Go.Proofs.Ytaoldopkehbhkaa
