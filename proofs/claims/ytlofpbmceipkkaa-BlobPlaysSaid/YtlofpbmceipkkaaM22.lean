/-
  blob: Free; slices.Sort of numbers that rise; counts of blocks.
-/
import Derived.Test.YtlofpbmceipkkaaM21
namespace Go.Proofs.Ytlofpbmceipkkaa
open Go.RowKit Wal Blob

theorem KeptErr {B : Nat} {w2 : World} {x : Nat} (h : Held w2 x 32 #[.int .i64 0]) {p n : Nat} {f : Nat → Option KB} (m : MemAt B w2 p n f) (v : Value) : MemAt B (w2.setCell ⟨x, 0, none⟩ v) p n f := m.set_ h else_errno.1 else_errno.2.1 else_errno.2.2 0 v
set_option maxRecDepth 100000 in
set_option maxHeartbeats 1600000 in
/-- Free. -/
theorem bfree_all (B : Nat) (w : World) (p n : Nat) (f : Nat → Option KB) (hm : MemAt B w p n f) (h : Nat) (parts l : List Nat) (t : There n f h parts l) :
    Calls Try.prog 10 #[sto p, .int .i64 (h : Int)] w fun e w' => e = .returned (.int .i64 0) ∧ MemAt B w' p n (wipe f (allB h parts)) ∧ Kp B w w' := by
  have VS := Lib.hid (visit_any B w p n f hm h parts l t 21 #[] none (fun _ w2 => MemAt B w2 p n (wipe f (allB h parts))) (fun _ _ => False) (fun a u => rfl)
    (fun w2 A m c hmm hi hb => by
      subst hmm
      exact (bfree_any B w2 p n f (hm.under hb) h parts l t A c hi).mono (fun e w3 ⟨he, hm3, hk3⟩ => .inl ⟨he, .tuple #[], w3, hm3, hk3, rfl⟩)) (fun x hx => by cases hx))
  clear hm t
  obtain ⟨sv, hsv⟩ : ∃ sv, sv = sto p := ⟨_, rfl⟩
  rw [← hsv] at VS ⊢
  unfold sto at hsv
  subst hsv
  go_enter Try.func10, Try.ntmps10
  go_wp2_with fail
  refine VS.out.mono ?_
  rintro e w' ⟨x, hx, ⟨rfl, v, w2, m2, k2, x2, rfl⟩ | ⟨err, w2, o, _, hF, _⟩⟩
  · have M := Lib.hid (KeptErr x2 m2 (.int .i64 0))
    have K := Lib.hid (k2.new_ hx 0 (.int .i64 0))
    unfold setO
    clear m2 k2 x2 hx VS
    go_wp2_with fail
    go_ret
    exact ⟨rfl, M.out, K.out⟩
  · exact hF.elim
theorem sort_same (w : World) (A : Option Addr) (n c : Nat) (bs : List Nat) (hi : IntsAt w A bs) (hn : bs.length = n) (hs : bs.Pairwise (· < ·)) (hl : n ≤ 100000) :
    Calls Try.prog 44 #[.slice A n c] w fun e w' => e = .returned (.tuple #[]) ∧ Below w.heap.size w w' := by
  subst hn
  rcases Nat.eq_zero_or_pos bs.length with h0 | h0
  · rw [h0]
    refine (Try.slices_Sort_int_none A c w).mono ?_
    rintro e w' ⟨rfl, rfl⟩
    exact ⟨rfl, Below.refl _ _⟩
  · obtain ⟨g, off, cs, rfl, hh, hc⟩ := hi h0
    have hlt := hh.lt
    obtain ⟨zs, hz⟩ : ∃ zs, zs = bs.map (fun x : Nat => (x : Int)) := ⟨_, rfl⟩
    have hzl : zs.length = bs.length := by rw [hz, List.length_map]
    have hH : Go.Sort.Holds (Value.int .i64) w g off zs.toArray := fun j hj => by
      have hj' : j < bs.length := by simpa [hzl] using hj
      refine ⟨?_, hh.frozen _⟩
      rw [hh.cell, hc j bs[j] (List.getElem?_eq_getElem hj')]
      congr 1
      congr 1
      rw [getElem!_pos _ j (by simpa using hj)]
      simp [hz]
    have hso : zs.mergeSort (fun x y => decide (x ≤ y)) = zs := by
      refine List.mergeSort_of_pairwise ?_
      rw [hz, List.pairwise_map]
      exact hs.imp (fun {a b} (h : a < b) => by simpa using Nat.le_of_lt h)
    have hS := Try.slices_Sort_int g off c zs w hH hlt (by rw [hzl]; omega)
    rw [hzl] at hS
    refine hS.mono ?_
    rintro e w' ⟨rfl, m, os, rfl⟩
    refine ⟨rfl, ?_⟩
    rw [hso, Go.Sort.putRow_self _ (Go.Sort.ahead w m) g off zs.toArray hH]
    exact ⟨rfl, rfl, rfl, by simp [Go.Sort.grow, Go.Sort.ahead], fun k hk => by simp [Go.Sort.grow, Go.Sort.ahead, Array.getElem?_append_left hk]⟩
theorem cnt_put (f : Nat → Option KB) (i : Nat) (x : KB) (hf : f i = none) : ∀ n, cnt n (put f i (some x)) = cnt n f + if i < n then 1 else 0
  | 0 => by simp [cnt_zero]
  | n + 1 => by
    rw [cnt_succ, cnt_succ, cnt_put f i x hf n]
    unfold put
    by_cases c : n = i
    · subst c
      simp [hf]
    · rw [if_neg c]
      by_cases c2 : i < n
      · rw [if_pos c2, if_pos (by omega : i < n + 1)]; omega
      · rw [if_neg c2, if_neg (by omega : ¬ i < n + 1)]; omega
theorem cnt_congr {f f' : Nat → Option KB} (h : ∀ j, (f' j).isSome = (f j).isSome) (n : Nat) : cnt n f' = cnt n f := by
  unfold cnt
  congr 1
  exact List.filter_congr (fun j _ => h j)
theorem cnt_add (n : Nat) : ∀ (bs : List Nat) (f f' : Nat → Option KB), bs.Nodup → (∀ v ∈ bs, 1 ≤ v ∧ v ≤ n ∧ f (v - 1) = none ∧ f' (v - 1) ≠ none) → (∀ j, j + 1 ∉ bs → (f' j).isSome = (f j).isSome) → cnt n f' = cnt n f + bs.length
  | [], f, f', _, _, h => cnt_congr (fun j => h j (by simp)) n
  | v :: bs, f, f', hd, h1, h2 => by
    obtain ⟨a1, a2, a3, a4⟩ := h1 v (by simp)
    have hd' := List.nodup_cons.1 hd
    have ih := cnt_add n bs (put f (v - 1) (some zeroKB)) f' hd'.2 (fun u hu => by
      obtain ⟨b1, b2, b3, b4⟩ := h1 u (by simp [hu])
      refine ⟨b1, b2, ?_, b4⟩
      unfold put
      rw [if_neg (fun e => hd'.1 (by rw [show v = u by omega]; exact hu))]
      exact b3) (fun j hj => by
      unfold put
      by_cases c : j = v - 1
      · rw [if_pos c, c]
        cases hx : f' (v - 1) with
        | none => exact absurd hx a4
        | some x => rfl
      · rw [if_neg c]
        exact h2 j (by simp only [List.mem_cons, not_or]; exact ⟨by omega, hj⟩))
    rw [ih, cnt_put f (v - 1) zeroKB a3 n, if_pos (by omega), List.length_cons]
    omega
end Go.Proofs.Ytlofpbmceipkkaa
