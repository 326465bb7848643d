/-
  The contracts of disk.New and of a disk's Clone; and of the calls on a nil disk.
-/
import Derived.Test.YtaoldopkehbhkaaDiskC
namespace Go.Proofs.Ytaoldopkehbhkaa
open Go.RowKit

theorem infoS : (Try.prog.info? 9).map (fun i => (i.zero, i.size, i.bytes)) = some (some (.string ⟨#[]⟩), 1, 16) := by kernel_rfl

/-- A new disk like m, all its blocks new. -/
def NewDisk (w : World) (m : Dsk.DM) (e : Ending) (w' : World) : Prop := ∃ d F, e = .returned (.pointer (some ⟨d, 0, none⟩)) ∧ DiskAt w' d F m ∧ Below w.heap.size w w' ∧ ∀ x ∈ F, w.heap.size ≤ x

theorem make_strs (n : Nat) (hn : n ≤ 4096) (u : World) : (Instr.makeSlice 82 (.int .i64 (n : Int)) (.int .i64 (n : Int))).run Try.prog u =
    .ok (.slice (some ⟨u.heap.size, 0, none⟩) n n) (u.alloc (.cells (madeCells #[.string ⟨#[]⟩] n) 9)) := by
  obtain ⟨i0, hi, hz0, hz1, hz2⟩ := info_parts infoS
  have h := run_make (P := Try.prog) u 82 9 i0 (.string ⟨#[]⟩) Try.underlying82 hi hz0 .i64 .i64 (n : Int) (n : Int) (by omega) (Int.le_refl _) (by rw [hz2]; omega) (by omega)
  have e : (n : Int).toNat = n := by omega
  rw [e] at h
  simpa [hz1, Value.cells] using h

theorem own_strs (u : World) (n : Nat) (hn : n ≤ 4096) (b : Nat) (hb : b = u.heap.size) : (u.alloc (.cells (madeCells #[.string ⟨#[]⟩] n) 9)).ownsRow 0 9 1 (.slice (some ⟨b, 0, none⟩) n n) n ((List.replicate n ([] : List Nat)).map strV) := by
  subst hb
  have h := World.ownsRow_lit (base := 0) (e := 9) (size := 1) u (madeCells #[.string ⟨#[]⟩] n) n (Nat.zero_le _) (by simp only [maxLen]; omega) (by simp [size_madeCells])
  rw [toList_madeCells_one] at h
  rw [List.map_replicate]
  exact h

/-- How many sectors New makes. -/
def clampN (x : Int) : Nat := if x < 1 then 1 else if 4096 < x then 4096 else x.toNat
theorem clampN_least (x : Int) : 1 ≤ clampN x := by unfold clampN; split; omega; split <;> omega
theorem clampN_most (x : Int) : clampN x ≤ 4096 := by unfold clampN; split; omega; split <;> omega

theorem fresh_at {w1 : World} {n a b d : Nat} {C : Array Value} (h1 : 1 ≤ n) (h2 : n ≤ 4096) (ha : w1.ownsRow 0 9 1 (.slice (some ⟨a, 0, none⟩) n n) n ((List.replicate n ([] : List Nat)).map strV)) (hb : w1.ownsRow 0 9 1 (.slice (some ⟨b, 0, none⟩) n n) n ((List.replicate n ([] : List Nat)).map strV)) (hne : a ≠ b)
    (hC : C = #[.slice (some ⟨a, 0, none⟩) n n, .slice (some ⟨b, 0, none⟩) n n, .slice none 0 0, .int .i64 (-1), .bool false]) (hd : d = w1.heap.size) :
    DiskAt (w1.alloc (.cells C 85)) d (diskFoot d a b (.slice none 0 0)) (Dsk.fresh n) := by
  subst hC
  refine ⟨a, n, b, n, .slice none 0 0, ⟨?_, ?_, ?_, World.ownsRow_nil _ _ _ _, hne, Dsk.fresh_good h1 h2⟩, rfl⟩
  · have e : (Dsk.fresh n).dur.length = n := by simp [Dsk.fresh]
    rw [e]
    exact Held.new _ _ _ hd
  · have e : (Dsk.fresh n).dur.length = n := by simp [Dsk.fresh]
    rw [e]
    exact ha.alloc _
  · have e : (Dsk.fresh n).dur.length = n := by simp [Dsk.fresh]
    rw [e]
    exact hb.alloc _

theorem new_at (w : World) (x : Int) (n : Nat) (h1 : 1 ≤ n) (h2 : n ≤ 4096) (hx : (x < 1 ∧ n = 1) ∨ (4096 < x ∧ n = 4096) ∨ x = (n : Int)) :
    Calls Try.prog 21 #[.int .i64 x] w (NewDisk w (Dsk.fresh n)) := by
  have hmk := make_strs n h2
  have HF1 : Hid (∀ C : Array Value, C = #[.slice (some ⟨w.heap.size, 0, none⟩) n n, .slice (some ⟨w.heap.size + 1, 0, none⟩) n n, .slice none 0 0, .int .i64 (-1), .bool false] → NewDisk w (Dsk.fresh n) (.returned (.pointer (some ⟨w.heap.size + 1 + 1, 0, none⟩)))
      (((w.alloc (.cells (madeCells #[.string ⟨#[]⟩] n) 9)).alloc (.cells (madeCells #[.string ⟨#[]⟩] n) 9)).alloc (.cells C 85)).drew) := fun C hC =>
    ⟨_, _, rfl, (fresh_at h1 h2 ((own_strs w n h2 _ rfl).alloc _) (own_strs _ n h2 _ (by simp)) (by omega) hC (by simp)).drew, ((((Below.refl _ _).alloc (Nat.le_refl _) _).alloc (by simp) _).alloc (by simp; omega) _).drew, fun x hx => by
      rw [mem_foot] at hx
      rcases hx with rfl | rfl | rfl | hx
      · omega
      · omega
      · omega
      · cases hx⟩
  have HF2 : Hid (∀ C : Array Value, C = #[.slice (some ⟨w.heap.size + 1, 0, none⟩) n n, .slice (some ⟨w.heap.size, 0, none⟩) n n, .slice none 0 0, .int .i64 (-1), .bool false] → NewDisk w (Dsk.fresh n) (.returned (.pointer (some ⟨w.heap.size + 1 + 1, 0, none⟩)))
      (((w.alloc (.cells (madeCells #[.string ⟨#[]⟩] n) 9)).alloc (.cells (madeCells #[.string ⟨#[]⟩] n) 9)).alloc (.cells C 85)).drew) := fun C hC =>
    ⟨_, _, rfl, (fresh_at h1 h2 (own_strs _ n h2 _ (by simp)) ((own_strs w n h2 _ rfl).alloc _) (by omega) hC (by simp)).drew, ((((Below.refl _ _).alloc (Nat.le_refl _) _).alloc (by simp) _).alloc (by simp; omega) _).drew, fun x hx => by
      rw [mem_foot] at hx
      rcases hx with rfl | rfl | rfl | hx
      · omega
      · omega
      · omega
      · cases hx⟩
  rcases hx with ⟨hx, hn⟩ | ⟨hx, hn⟩ | rfl
  · have hx' : ¬ 1 ≤ x := by omega
    have HN : Hid (Value.int .i64 1 = Value.int .i64 (n : Int)) := by rw [hn]; rfl
    clear h1 h2 hn
    go_enter Try.func21, Try.ntmps21
    go_wp2
    rw [HN.out]
    go_region
    all_goals
      go_wp2
      go_ret
      first | exact HF1.out _ rfl | exact HF2.out _ rfl
  · have hx2 : 1 ≤ x := by omega
    have HN : Hid (Value.int .i64 4096 = Value.int .i64 (n : Int)) := by rw [hn]; rfl
    clear h1 h2 hn
    go_enter Try.func21, Try.ntmps21
    go_wp2
    rw [HN.out]
    go_region
    all_goals
      go_wp2
      go_ret
      first | exact HF1.out _ rfl | exact HF2.out _ rfl
  · have hx1 : (1 : Int) ≤ (n : Int) := by omega
    have hx2 : (n : Int) ≤ 4096 := by omega
    clear h1 h2
    go_enter Try.func21, Try.ntmps21
    go_wp2
    go_region
    all_goals
      go_wp2
      go_ret
      first | exact HF1.out _ rfl | exact HF2.out _ rfl

theorem new_any (w : World) (x : Int) : Calls Try.prog 21 #[.int .i64 x] w (NewDisk w (Dsk.fresh (clampN x))) := by
  refine new_at w x (clampN x) (clampN_least x) (clampN_most x) ?_
  unfold clampN
  by_cases h : x < 1
  · rw [if_pos h]; exact .inl ⟨h, rfl⟩
  · rw [if_neg h]
    by_cases h4 : 4096 < x
    · rw [if_pos h4]; exact .inr (.inl ⟨h4, rfl⟩)
    · rw [if_neg h4]; right; right; omega

/-! ### The calls on a nil disk -/
theorem size_nil (w : World) : Calls Try.prog 36 #[.pointer none] w fun e w' => e = .returned (.int .i64 0) ∧ w = w' := by
  go_enter Try.func36, Try.ntmps36
  go_wp2
  go_ret
  exact ⟨rfl, rfl⟩
theorem dead_nil (w : World) : Calls Try.prog 52 #[.pointer none] w fun e w' => e = .returned (.bool false) ∧ w = w' := by
  go_enter Try.func52, Try.ntmps52
  go_wp2
  go_ret
  exact ⟨rfl, rfl⟩
theorem read_nil (w : World) (x : Int) : Calls Try.prog 45 #[.pointer none, .int .i64 x] w fun e w' => e = .returned (.tuple #[.slice none 0 0, .int .i64 2]) ∧ w = w' := by
  go_enter Try.func45, Try.ntmps45
  go_wp2
  go_ret2
  exact ⟨rfl, rfl⟩
theorem write_nil (w : World) (x : Int) (v : Value) : Calls Try.prog 48 #[.pointer none, .int .i64 x, v] w fun e w' => e = .returned (.int .i64 2) ∧ w = w' := by
  go_enter Try.func48, Try.ntmps48
  go_wp2
  go_ret
  exact ⟨rfl, rfl⟩
theorem flush_nil (w : World) : Calls Try.prog 49 #[.pointer none] w fun e w' => e = .returned (.int .i64 2) ∧ w = w' := by
  go_enter Try.func49, Try.ntmps49
  go_wp2
  go_ret
  exact ⟨rfl, rfl⟩
end Go.Proofs.Ytaoldopkehbhkaa
