/-
  wal: the contracts of sector, check, good, Need, alive, write, flush.
-/
import Derived.Test.YtaoldopkehbhkaaWal2
namespace Go.Proofs.Ytaoldopkehbhkaa
open Go.RowKit Wal

theorem ret_i64 {a b : Int} (h : a = b) : Ending.returned (.int .i64 a) = .returned (.int .i64 b) := by rw [h]
theorem ret_bool {a b : Bool} (h : a = b) : Ending.returned (.bool a) = .returned (.bool b) := by rw [h]

/-- A slice of strings that reads as the list l. -/
def Strs (w : World) (A : Option Addr) (n : Nat) (l : List ByteArray) : Prop :=
  l.length = n ∧ (∀ s ∈ l, s.size ≤ 4611686018427387904) ∧ (0 < n → ∃ b off, A = some ⟨b, off, none⟩ ∧ b < w.heap.size ∧ ∀ i s, l[i]? = some s → w.cell? ⟨b, off + i, none⟩ = some (.string s))
theorem Strs.only {F : List Nat} {a b : World} {A : Option Addr} {n : Nat} {l : List ByteArray} (h : Only F a b) (hb : Strs a A n l) (hA : 0 < n → ∀ x, A = some x → x.block ∉ F) : Strs b A n l :=
  ⟨hb.1, hb.2.1, fun hn => by
    obtain ⟨g, off, e, hl, hc⟩ := hb.2.2 hn
    exact ⟨g, off, e, Nat.lt_of_lt_of_le hl h.size, fun i s hi => (h.cell (p := ⟨g, off + i, none⟩) hl (hA hn ⟨g, off, none⟩ e)).trans (hc i s hi)⟩⟩
theorem Strs.below {w w' : World} {A : Option Addr} {n : Nat} {l : List ByteArray} (h : Strs w A n l) (k : Below w.heap.size w w') : Strs w' A n l := Strs.only (Only.of_below (F := []) k) h (fun _ _ _ hx => by cases hx)
theorem Strs.drewN {w : World} {A : Option Addr} {n : Nat} {l : List ByteArray} (h : Strs w A n l) (k : Nat) : Strs (w.drewN k) A n l := Strs.only ((Only.refl [] w).drewN k) h (fun _ _ _ hx => by cases hx)

/-- A batch of strings, as texts. -/
def txts (l : List ByteArray) : List (List Nat) := l.map nums
theorem txts_length (l : List ByteArray) : (txts l).length = l.length := by simp [txts]
theorem txts_bytes (l : List ByteArray) : ∀ r ∈ txts l, ∀ x ∈ r, x < 256 := fun r hr => by
  obtain ⟨s, _, rfl⟩ := List.mem_map.1 hr
  exact nums_lt s

namespace Wal
def sector (s : LS) (p : Nat) : Nat := s.frm + 1 + (s.start + p) % s.ring
def checkErr (size : Nat) (frm n : Int) : Int := if frm < 0 ∨ n < 2 ∨ (size : Int) - frm < n then 1 else 0
theorem bodyLen_snoc (b : List (List Nat)) (r : List Nat) : bodyLen (b ++ [r]) = bodyLen b + (4 + r.length) := by simp [bodyLen]
theorem bodyLen_take (b : List (List Nat)) (k : Nat) : bodyLen (b.take k) ≤ bodyLen b := by
  unfold bodyLen
  rw [List.map_take]
  exact sum_take_le _ k
end Wal

theorem check_nil (w : World) (x n : Int) : Calls Try.prog 50 #[.pointer none, .int .i64 x, .int .i64 n] w fun e w' => e = .returned (.int .i64 2) ∧ w = w' := by
  go_enter Try.func50, Try.ntmps50
  go_wp2
  go_ret
  exact ⟨rfl, rfl⟩
theorem check_any (w : World) (d : Nat) (F : List Nat) (m : Dsk.DM) (x n : Int) (hx : x ≤ 9223372036854775807) (h : DiskAt w d F m) :
    Calls Try.prog 50 #[.pointer (some ⟨d, 0, none⟩), .int .i64 x, .int .i64 n] w fun e w' => e = .returned (.int .i64 (checkErr m.dur.length x n)) ∧ w = w' := by
  have S := Lib.hid (size_any w d F m h)
  have hmost := h.good.most
  clear h
  by_cases h0 : x < 0
  · have e1 : checkErr m.dur.length x n = 1 := by unfold checkErr; rw [if_pos (.inl h0)]
    rw [e1]
    clear e1
    go_enter Try.func50, Try.ntmps50
    go_wp2_with fail
    go_ret
    exact ⟨rfl, rfl⟩
  · have h0' : decide (x < 0) = false := by simpa using h0
    have h0'' : 0 ≤ x := by omega
    by_cases h1 : n < 2
    · have e1 : checkErr m.dur.length x n = 1 := by unfold checkErr; rw [if_pos (.inr (.inl h1))]
      rw [e1]
      clear e1
      go_enter Try.func50, Try.ntmps50
      go_wp2_with fail
      go_ret
      exact ⟨rfl, rfl⟩
    · have h1' : decide (n < 2) = false := by simpa using h1
      by_cases h2 : (m.dur.length : Int) - x < n
      · have e1 : checkErr m.dur.length x n = 1 := by unfold checkErr; rw [if_pos (.inr (.inr h2))]
        rw [e1]
        clear e1 h0 h1
        go_enter Try.func50, Try.ntmps50
        go_wp2_with (go_at_call 36; refine S.out.mono ?_; rintro e w' ⟨rfl, rfl⟩)
        go_ret
        exact ⟨rfl, rfl⟩
      · have e1 : checkErr m.dur.length x n = 0 := by unfold checkErr; rw [if_neg (by omega)]
        rw [e1]
        clear e1 h0 h1
        have h2' : decide ((m.dur.length : Int) - x < n) = false := by simpa using h2
        go_enter Try.func50, Try.ntmps50
        go_wp2_with (go_at_call 36; refine S.out.mono ?_; rintro e w' ⟨rfl, rfl⟩)
        go_ret
        exact ⟨rfl, rfl⟩

/-- A string of a list, at its place. -/
theorem Strs.at_ {w : World} {A : Option Addr} {n k : Nat} {l : List ByteArray} (h : Strs w A n l) (hk : k < n) : ∃ b off s, A = some ⟨b, off, none⟩ ∧ b < w.heap.size ∧ l[k]? = some s ∧ s.size ≤ 4611686018427387904 ∧ w.cell? ⟨b, off + k, none⟩ = some (.string s) ∧ (txts l)[k]? = some (nums s) ∧ (txts l).take (k + 1) = (txts l).take k ++ [nums s] := by
  obtain ⟨b, off, e, hb, hc⟩ := h.2.2 (by omega)
  have hk' : k < l.length := by rw [h.1]; exact hk
  have e1 : l[k]? = some l[k] := List.getElem?_eq_getElem hk'
  have e2 : (txts l)[k]? = some (nums l[k]) := by simp [txts, e1]
  refine ⟨b, off, l[k], e, hb, e1, h.2.1 _ (List.getElem_mem hk'), hc k _ e1, e2, ?_⟩
  rw [List.take_add_one, e2]
  rfl

theorem good_take_bad {b : List (List Nat)} {k : Nat} {r : List Nat} (h : b[k]? = some r) (hr : 600 < r.length) : Wal.good b = false := by
  have : b.all (fun r => decide (r.length ≤ 600)) = false := by
    rw [List.all_eq_false]
    exact ⟨r, List.mem_of_getElem? h, by simpa using hr⟩
  simp [Wal.good, this]
theorem good_end {b : List (List Nat)} (h : ∀ (k : Nat) (r : List Nat), b[k]? = some r → r.length ≤ 600) : Wal.good b = (decide (1 ≤ b.length) && decide (b.length ≤ 1024)) := by
  have : b.all (fun r => decide (r.length ≤ 600)) = true := by
    rw [List.all_eq_true]
    intro r hr
    obtain ⟨k, hk⟩ := List.mem_iff_getElem?.1 hr
    simpa using h k r hk
  simp [Wal.good, this]

end Go.Proofs.Ytaoldopkehbhkaa
