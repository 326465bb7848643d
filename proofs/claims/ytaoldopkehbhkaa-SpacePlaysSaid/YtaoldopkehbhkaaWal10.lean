/-
  wal: a new log in memory; the contract of Make.
-/
import Derived.Test.YtaoldopkehbhkaaWal9
namespace Go.Proofs.Ytaoldopkehbhkaa
open Go.RowKit Wal

/-- A log that has just been laid. -/
def LS.fresh (frm ring : Nat) : LS := { frm := frm, ring := ring, start := 0, first := 0, synced := 0, needs := [], dead := false }

theorem zero_size : Try.zeroCells115.size = 268 := by decide +kernel
theorem new_log (w : World) (d frm ring : Nat) (b : Nat) (hb : b = w.heap.size) :
    LogIs (w.alloc (.cells (((Try.zeroCells115.setIfInBounds 0 (.pointer (some ⟨d, 0, none⟩))).setIfInBounds 1 (.int .i64 (frm : Int))).setIfInBounds 2 (.int .i64 (ring : Int))) 115)) b d (.slice none 0 0) (LS.fresh frm ring) := by
  subst hb
  have hs := zero_size
  have hc : ∀ i, 3 ≤ i → (w.alloc (.cells (((Try.zeroCells115.setIfInBounds 0 (.pointer (some ⟨d, 0, none⟩))).setIfInBounds 1 (.int .i64 (frm : Int))).setIfInBounds 2 (.int .i64 (ring : Int))) 115)).cell? ⟨w.heap.size, i, none⟩ = Try.zeroCells115[i]? := fun i hi => by
    rw [World.cell?_alloc_new, Array.getElem?_setIfInBounds_ne (by omega), Array.getElem?_setIfInBounds_ne (by omega), Array.getElem?_setIfInBounds_ne (by omega)]
  refine ⟨?_, ?_, ?_, (hc 3 (by omega)).trans (by kernel_rfl), (hc 4 (by omega)).trans (by kernel_rfl), (hc 5 (by omega)).trans (by kernel_rfl), (hc 6 (by omega)).trans (by kernel_rfl), (hc 7 (by omega)).trans (by kernel_rfl), ⟨0, .inl ⟨fun _ => 0, ?_⟩⟩, SRow.nil _ _ _, fun _ h => by cases h⟩
  · rw [World.cell?_alloc_new, Array.getElem?_setIfInBounds_ne (by omega), Array.getElem?_setIfInBounds_ne (by omega), Array.getElem?_setIfInBounds_self_of_lt (by omega)]
  · rw [World.cell?_alloc_new, Array.getElem?_setIfInBounds_ne (by omega), Array.getElem?_setIfInBounds_self_of_lt (by simp [hs])]
    rfl
  · rw [World.cell?_alloc_new, Array.getElem?_setIfInBounds_self_of_lt (by simp [hs])]
    rfl
  · exact {
      c0 := (hc 8 (by omega)).trans (by kernel_rfl)
      c1 := (hc 9 (by omega)).trans (by kernel_rfl)
      cf := fun i hi => by
        rw [hc _ (by omega)]
        exact ⟨_, Array.getElem?_eq_getElem (by rw [hs]; omega)⟩
      ce := .inl rfl
      cn := (hc 267 (by omega)).trans (by kernel_rfl)
      fr := fun o => World.frozen?_alloc_new _ _ _ _
      lt := by simp }

/-- What Make answers where there is a log; where there is none. -/
def MadeLog (w : World) (d : Nat) (F : List Nat) (o : Out) (e : Ending) (w' : World) : Prop :=
  (o.1 = 0 → ∃ b G F', e = .returned (.tuple #[.pointer (some ⟨b, 0, none⟩), .int .i64 0]) ∧ LD w' b G o.2.1 d F' o.2.2 ∧ Only F w w' ∧ (∀ x ∈ G, w.heap.size ≤ x) ∧ ∀ x ∈ F', x ∈ F ∨ w.heap.size ≤ x) ∧
  (o.1 ≠ 0 → e = .returned (.tuple #[.pointer none, .int .i64 o.1]) ∧ Turned w d F w' o.2.2)
namespace Wal
def makeO (m : Dsk.DM) (frm n : Nat) : Out := tellO (LS.fresh frm (n - 1)) m 0 1 0
end Wal

set_option maxRecDepth 100000 in
set_option maxHeartbeats 400000 in
theorem make_any (w : World) (d : Nat) (F : List Nat) (m : Dsk.DM) (frm n : Nat) (h : DiskAt w d F m) (hc : checkErr m.dur.length frm n = 0) (hw : m.wait.length ≤ 5700000000000) :
    Calls Try.prog 37 #[.pointer (some ⟨d, 0, none⟩), .int .i64 (frm : Int), .int .i64 (n : Int)] w (MadeLog w d F (makeO m frm n)) := by
  have hmost := h.good.most
  have hb : 2 ≤ n ∧ frm + n ≤ m.dur.length := by
    unfold checkErr at hc
    by_cases hq : (frm : Int) < 0 ∨ (n : Int) < 2 ∨ (m.dur.length : Int) - frm < n
    · rw [if_pos hq] at hc; cases hc
    · omega
  have C := Lib.hid (check_any w d F m frm n (by omega) h)
  rw [hc] at C
  have H := Lib.hid h
  have WW := Lib.hid hw
  have HB := Lib.hid hb
  have hn1 : 1 ≤ n := by omega
  clear h hc hw hb
  go_enter Try.func37, Try.ntmps37
  go_wp2_with fail
  refine C.out.mono ?_
  rintro e w' ⟨rfl, rfl⟩
  clear C
  have en : wrap64 ((n : Int) - 1) = ((n - 1 : Nat) : Int) := by have := HB.out; unfold wrap64; omega
  go_wp2_with fail
  rw [en]
  obtain ⟨wb, hwb⟩ : ∃ wb, wb = (w.alloc (.cells (((Try.zeroCells115.setIfInBounds 0 (.pointer (some ⟨d, 0, none⟩))).setIfInBounds 1 (.int .i64 (frm : Int))).setIfInBounds 2 (.int .i64 ((n - 1 : Nat) : Int))) 115)) := ⟨_, rfl⟩
  have BB : Hid (Below w.heap.size w wb) := by rw [hwb]; exact (Below.refl _ _).alloc (Nat.le_refl _) _
  have LB : Hid (LD wb w.heap.size [w.heap.size] (LS.fresh frm (n - 1)) d F m) := by
    refine ⟨⟨.slice none 0 0, ?_, rfl⟩, H.out.below BB.out, fun x hx hf => ?_⟩
    · rw [hwb]; exact new_log w d frm (n - 1) _ rfl
    · obtain rfl : x = w.heap.size := by simpa using hx
      have := H.out.lt _ hf
      omega
  rw [← hwb]
  clear hwb
  refine (tell_any wb w.heap.size d _ [w.heap.size] F m 0 1 0 LB.out (by have := HB.out; show frm ≤ _; omega) (by have := HB.out; show n - 1 ≤ _; omega) (by omega) (by omega) (by omega) WW.out).mono ?_
  rintro e w1 ⟨rfl, G1, F1, hL, hO, hNG, hNF⟩
  have OW : Hid (Only F w w1) := by
    refine (Only.of_below (F := F) BB.out).trans hO (fun x hx => ?_)
    rcases List.mem_append.1 hx with hx | hx
    · right
      obtain rfl : x = w.heap.size := by simpa using hx
      exact Nat.le_refl _
    · exact .inl hx
  have GW : Hid (∀ x ∈ G1, w.heap.size ≤ x) := fun x hx => by
    rcases hNG x hx with h | h
    · obtain rfl : x = w.heap.size := by simpa using h
      exact Nat.le_refl _
    · exact Nat.le_trans BB.out.size h
  have FW : Hid (∀ x ∈ F1, x ∈ F ∨ w.heap.size ≤ x) := (Grown.refl w F).trans BB.out.size hNF
  have L1 := Lib.hid hL
  clear hL hO hNG hNF LB BB
  obtain ⟨o, ho⟩ : ∃ o, o = makeO m frm n := ⟨_, rfl⟩
  have EO := Lib.hid ho
  unfold makeO at ho
  rw [← ho] at L1 ⊢
  obtain ⟨z, s1, m1⟩ := o
  clear ho
  dsimp only at L1 ⊢
  by_cases hz : z = 0
  · subst hz
    go_wp2_with fail
    go_ret2
    rw [← EO.out]
    exact ⟨fun _ => ⟨_, G1, F1, rfl, L1.out, OW.out, GW.out, FW.out⟩, fun h => absurd rfl h⟩
  · have hz1 : (z == 0) = false := by simpa using hz
    have hz2 : (z != 0) = true := by simpa using hz
    have HZ := Lib.hid hz
    clear hz
    go_wp2_with fail
    go_ret2
    rw [← EO.out]
    exact ⟨fun h => absurd h HZ.out, fun _ => ⟨rfl, F1, L1.out.disk, OW.out, FW.out⟩⟩
end Go.Proofs.Ytaoldopkehbhkaa
