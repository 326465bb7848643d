/-
  wire: bytes in memory; how long a line is, a piece off the front, over a row of bytes.
-/
import Derived.Test.YtnodhbgkoedalaaGreatDoorQW10
namespace Go.Proofs.YtnodhbgkoedalaaGreatDoor
open Go.RowKit Reply

/-- The bytes l lie in block g from off on. -/
structure Bk (w : World) (g off : Nat) (l : Reply.B) : Prop where
  lt : g < w.heap.size
  cell : ∀ k, k < l.length → w.cell? ⟨g, off + k, none⟩ = some (.int .u8 ((l.getD k 0).toNat : Int))
section
variable {w w' : World} {g off : Nat} {l : Reply.B}
theorem Bk.bts (h : Bk w g off l) : Bts w (some ⟨g, off, none⟩) l.length (l.map (·.toNat)) := by
  refine ⟨by simp, fun x hx => ?_, fun _ => ⟨g, off, rfl, h.lt, fun i hi => ?_⟩⟩
  · obtain ⟨c, _, rfl⟩ := List.mem_map.1 hx
    exact c.toNat_lt
  · rw [h.cell i hi, List.getD_eq_getElem?_getD, List.getD_eq_getElem?_getD, List.getElem?_map, List.getElem?_eq_getElem hi]
    rfl
theorem Bk.below (h : Bk w g off l) (k : Below w.heap.size w w') : Bk w' g off l := ⟨Nat.lt_of_lt_of_le h.lt k.size, fun i hi => (k.cell (p := ⟨g, off + i, none⟩) h.lt).trans (h.cell i hi)⟩
theorem Bk.fr {B p : Nat} (h : Bk w g off l) (k : Fr B p w w') (h1 : g < B) (h2 : g ≠ p) : Bk w' g off l := ⟨Nat.lt_of_lt_of_le h.lt k.size, fun i hi => (World.cell?_of_block (a := ⟨g, off + i, none⟩) (k.block g h1 h2)).trans (h.cell i hi)⟩
theorem Bk.far (h : Bk w g off l) {p i : Nat} (hp : g ≠ p) (u : Value) : Bk (w.setCell ⟨p, i, none⟩ u) g off l := ⟨by simpa [World.setCell] using h.lt, fun j hj => (World.cell?_of_block (a := ⟨g, off + j, none⟩) (Below.heap_setCell w ⟨p, i, none⟩ u g hp)).trans (h.cell j hj)⟩
theorem Bk.drop (h : Bk w g off l) (k : Nat) : Bk w g (off + k) (l.drop k) := ⟨h.lt, fun i hi => by
  rw [List.length_drop] at hi
  rw [Nat.add_assoc, h.cell (k + i) (by omega), List.getD_eq_getElem?_getD, List.getD_eq_getElem?_getD, List.getElem?_drop]⟩
theorem Bk.take (h : Bk w g off l) (k : Nat) : Bk w g off (l.take k) := ⟨h.lt, fun i hi => by
  rw [List.length_take] at hi
  rw [h.cell i (by omega), List.getD_eq_getElem?_getD, List.getD_eq_getElem?_getD, List.getElem?_take, if_pos (by omega)]⟩
end
set_option maxRecDepth 100000 in
set_option maxHeartbeats 4000000 in
theorem linesize_b_any (w : World) (A : Option Addr) (cp : Nat) (l : Reply.B) (h : 0 < l.length → ∃ g off, A = some ⟨g, off, none⟩ ∧ Bk w g off l) :
    Calls Tryz.prog 31 #[.slice A l.length cp] w fun e w' => e = .returned (.int .i64 (Wire.lineSize l : Int)) ∧ w = w' := by
  obtain ⟨n, hn⟩ : ∃ n, n = l.length := ⟨_, rfl⟩
  have HA : Hid (∀ k, k < n → ∃ g off, A = some ⟨g, off, none⟩ ∧ w.cell? ⟨g, off + k, none⟩ = some (.int .u8 ((l.getD k 0).toNat : Int))) := fun k hk => by
    obtain ⟨g, off, e, b⟩ := h (by omega)
    exact ⟨g, off, e, b.cell k (by omega)⟩
  have HL := Lib.hid hn
  rw [← hn]
  obtain ⟨m, hm⟩ : ∃ m, m = min n 1026 := ⟨_, rfl⟩
  have m1 : m ≤ n := by omega
  have m2 : m ≤ 1026 := by omega
  have hmi : (if (1026 : Int) < (n : Int) then (1026 : Int) else (n : Int)) = (m : Int) := by split <;> omega
  have hmj : min (n : Int) 1026 = (m : Int) := by omega
  have HM := Lib.hid hm
  obtain ⟨R, hR⟩ : ∃ x, x = Wire.lineSize l := ⟨_, rfl⟩
  have HR := Lib.hid hR
  rw [← hR]
  clear hn hm hR h
  go_enter Tryz.func31, Tryz.ntmps31
  go_wp2
  go_loop [3, 7] (fun _ i => ∃ k : Nat, k ≤ m ∧ i = .int .i64 k ∧ Hid (∀ c ∈ l.take k, c ≠ 10)) (fun _ i => m - (intOf i).toNat)
  case atStart => exact ⟨0, by omega, rfl, by show ∀ c ∈ _, _; simp⟩
  case round =>
    obtain ⟨k, hk, rfl, hn⟩ := hrel
    by_cases hlt : k < m
    · have hks : k < n := by omega
      obtain ⟨c, hc⟩ : ∃ c, c = l.getD k 0 := ⟨_, rfl⟩
      obtain ⟨x, hx⟩ : ∃ x, x = c.toNat := ⟨_, rfl⟩
      obtain ⟨g, off, rfl, c0⟩ := HA.out k hks
      rw [← hc, ← hx] at c0
      have C := Lib.hid hc
      have hlz : (k : Int) < (m : Int) := by omega
      have hlz2 : (k : Int) < (n : Int) := by omega
      have TN : Hid (l.take (k + 1) = l.take k ++ [c]) := by show _ = _; rw [take_nextU (by rw [← HL.out]; exact hks), ← C.out]
      by_cases h10 : x = 10
      · have F : Hid (R = k + 1) := by
          show _ = _
          rw [HR.out]
          refine find_first (by rw [List.length_take, ← HL.out]; omega) ?_ hn.out
          rw [← C.out]
          apply UInt8.toNat_inj.1
          rw [← hx]
          exact h10
        have f0 : ((x : Int) == 10) = true := by rw [h10]; rfl
        clear hc hx h10
        go_wp2
        go_ret
        exact ⟨by rw [F.out]; simp, rfl⟩
      · have f0 : ((x : Int) == 10) = false := by rw [beq_eq_false_iff_ne]; omega
        have N : Hid (∀ d ∈ l.take (k + 1), d ≠ 10) := by
          show ∀ d ∈ _, _
          rw [TN.out]
          intro d hd
          rcases List.mem_append.1 hd with hd | hd
          · exact hn.out d hd
          · have : d = c := by simpa using hd
            rw [this]
            intro e
            rw [e] at hx
            exact h10 hx
        clear hc hx h10
        go_wp2
        go_round
        case rel => exact ⟨k + 1, by omega, by go_num, N⟩
        case measure => simp [intOf]; omega
    · obtain rfl : k = m := by omega
      have F : Hid (R = 1026) := by
        show _ = _
        rw [HR.out]
        refine find_never ?_
        rw [← HL.out, ← HM.out]
        exact hn.out
      go_wp2
      go_ret
      exact ⟨by rw [F.out]; rfl, rfl⟩
end Go.Proofs.YtnodhbgkoedalaaGreatDoor
