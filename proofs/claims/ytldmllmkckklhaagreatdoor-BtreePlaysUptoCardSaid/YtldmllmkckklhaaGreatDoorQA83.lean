/-
  slices.Sort of ints.
-/
import Derived.Test.YtldmllmkckklhaaGreatDoorQA81
import Derived.Test.YtldmllmkckklhaaGreatDoorLaid
import Derived.Sort.OwnSortedInts
namespace Go.Proofs.YtldmllmkckklhaaGreatDoor
open Go.RowKit Wal

theorem sorted_nats (bs : List Nat) : ∃ bs' : List Nat, bs'.Perm bs ∧ bs'.Pairwise (· ≤ ·) ∧ (bs.map (fun x : Nat => (x : Int))).mergeSort (fun x y => decide (x ≤ y)) = bs'.map (fun x : Nat => (x : Int)) := by
  obtain ⟨ts, ht⟩ : ∃ ts, ts = (bs.map (fun x : Nat => (x : Int))).mergeSort (fun x y => decide (x ≤ y)) := ⟨_, rfl⟩
  have hp : ts.Perm (bs.map (fun x : Nat => (x : Int))) := by rw [ht]; exact List.mergeSort_perm _ _
  have hs : ts.Pairwise (fun x y => decide (x ≤ y) = true) := by
    rw [ht]
    exact List.pairwise_mergeSort (fun a b c h1 h2 => by simp at h1 h2 ⊢; omega) (fun a b => by simp; omega) _
  have hpos : ∀ x ∈ ts, 0 ≤ x := fun x hx => by
    obtain ⟨b, _, e⟩ := List.mem_map.1 (hp.mem_iff.1 hx)
    rw [← e]
    exact Int.natCast_nonneg b
  refine ⟨ts.map Int.toNat, ?_, ?_, ?_⟩
  · have h := hp.map Int.toNat
    rw [List.map_map] at h
    have e : bs.map (Int.toNat ∘ fun x : Nat => (x : Int)) = bs := by
      conv => rhs; rw [← List.map_id bs]
      exact List.map_congr_left (fun x _ => by simp)
    rwa [e] at h
  · rw [List.pairwise_map]
    refine hs.imp (fun {a b} h => ?_)
    have h : a ≤ b := by simpa using h
    omega
  · rw [← ht, List.map_map]
    conv => lhs; rw [← List.map_id ts]
    exact List.map_congr_left (fun x hx => by have := hpos x hx; simp [Function.comp]; omega)
theorem sort_ok : SortOk := fun w base A c bs ho hl => by
  have ho0 := Lib.hid ho
  rcases ho.2 with ⟨e, h0⟩ | ⟨g, cap, cur, e, hg, hh, hn, hcap, hsz, htake⟩
  · injection e with e1 e2 e3
    subst e1 e3
    rw [h0]
    refine (Tryz.slices_Sort_int_none none 0 w).mono ?_
    rintro x w' ⟨rfl, rfl⟩
    have hb : bs = [] := List.eq_nil_of_length_eq_zero h0
    subst hb
    exact ⟨rfl, [], List.Perm.refl _, List.Pairwise.nil, OwnN.nil _ _, KpS.refl _ _ _⟩
  · injection e with e1 e2 e3
    subst e1 e3
    obtain ⟨bs', hp, hs, hso⟩ := sorted_nats bs
    obtain ⟨zs, hz⟩ : ∃ zs, zs = bs.map (fun x : Nat => (x : Int)) := ⟨_, rfl⟩
    rw [← hz] at hso
    have hzl : zs.length = bs.length := by rw [hz, List.length_map]
    have hzi : bs.map iV = zs.map (Value.int .i64) := by
      rw [hz, List.map_map]
      exact List.map_congr_left (fun x _ => rfl)
    have hbi : bs'.map iV = (bs'.map (fun x : Nat => (x : Int))).map (Value.int .i64) := by
      rw [List.map_map]
      exact List.map_congr_left (fun x _ => rfl)
    have hH : Go.Sort.Holds (Value.int .i64) w g 0 zs.toArray := holds_of_blockI hh (by rw [hzl, ← hzi, ← htake, Nat.mul_one])
    have hS := Tryz.slices_Sort_int g 0 c zs w hH (Array.getElem?_eq_some_iff.1 hh).1 (by rw [hzl]; omega)
    rw [hzl] at hS
    refine hS.mono ?_
    rintro x w' ⟨rfl, m, os, rfl⟩
    rw [hso]
    have hw := ownsRow_sortedI (n := m) (os := os) (ts := bs'.map (fun x : Nat => (x : Int))) (ss := zs) (by rw [List.length_map, hp.length_eq, hzl]) hg hh (by rw [hzl]; exact hn) hcap hsz
    rw [hzl, ← hbi] at hw
    refine ⟨rfl, bs', hp, hs, ?_, (KpS.refl [3] base w).grown ho0.out (grownBy_sortedI _) (by simp) (Nat.le_refl _)⟩
    unfold OwnN
    rw [hp.length_eq]
    exact hw
end Go.Proofs.YtldmllmkckklhaaGreatDoor
