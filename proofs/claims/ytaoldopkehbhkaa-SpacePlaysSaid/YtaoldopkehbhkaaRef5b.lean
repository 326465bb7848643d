/-
  docketref05's Make, Again, Bytes.
-/
import Derived.Test.YtaoldopkehbhkaaRef5
namespace Go.Proofs.Ytaoldopkehbhkaa
open Go.RowKit Go.Maps Wal

theorem rinfoB : (Try.prog.info? 4).map (fun i => (i.zero, i.size, i.bytes)) = some (some (.bool false), 1, 1) := by kernel_rfl
theorem rmake_bools (n : Nat) (hn : n ≤ 4096) (u : World) : (Instr.makeSlice 44 (.int .i64 (n : Int)) (.int .i64 (n : Int))).run Try.prog u =
    .ok (.slice (some ⟨u.heap.size, 0, none⟩) n n) (u.alloc (.cells (madeCells #[.bool false] n) 4)) := by
  obtain ⟨i0, hi, hz0, hz1, hz2⟩ := info_parts rinfoB
  have h := run_make (P := Try.prog) u 44 4 i0 (.bool false) Try.underlying44 hi hz0 .i64 .i64 (n : Int) (n : Int) (by omega) (Int.le_refl _) (by rw [hz2]; omega) (by omega)
  have e : (n : Int).toNat = n := by omega
  rw [e] at h
  simpa [hz1, Value.cells] using h
theorem rmade_at (n b : Nat) (hb : b < n) : (madeCells #[Value.bool false] n)[b]? = some (.bool false) := by
  have h := toList_madeCells_one (.bool false) n
  rw [← Array.getElem?_toList, h, List.getElem?_replicate, if_pos hb]
theorem Truths.made {w : World} {q n : Nat} {T : TypeId} (h : Held w q T (madeCells #[.bool false] n)) : Truths w q n (fun _ => false) :=
  ⟨fun i hi => by rw [h.cell, rmade_at n i hi], fun i _ => h.frozen i⟩
/-- Two rows and a block of the call's own: the document's map, as it is made. -/
def RMade (w w' : World) (g q r n : Nat) (t : Nat → Bool) : Prop := RMap w' g q r n n n t t ∧ w.heap.size ≤ g ∧ w.heap.size ≤ q ∧ w.heap.size ≤ r ∧ Below w.heap.size w w'
theorem RMade.set {w w' : World} {g q r n k : Nat} (h : RMade w w' g q r n (fun b => decide (b < k))) (hk : k < n) : RMade w ((w'.setCell ⟨q, k, none⟩ (.bool true)).setCell ⟨r, k, none⟩ (.bool true)) g q r n (fun b => decide (b < k + 1)) := by
  obtain ⟨⟨h1, h2, h3, h4, h5, h6, h7⟩, a, b, c, d⟩ := h
  have e : putB (fun b => decide (b < k)) k true = (fun b => decide (b < k + 1)) := by
    funext i
    unfold putB
    split
    · subst_vars; simp
    · exact decide_eq_decide.2 (by omega)
  have k1 : Only [q] w' (w'.setCell ⟨q, k, none⟩ (.bool true)) := (Only.refl _ w').setCell (p := ⟨q, k, none⟩) (.inl (by simp)) _
  have k2 : Only [r] (w'.setCell ⟨q, k, none⟩ (.bool true)) ((w'.setCell ⟨q, k, none⟩ (.bool true)).setCell ⟨r, k, none⟩ (.bool true)) := (Only.refl _ _).setCell (p := ⟨r, k, none⟩) (.inl (by simp)) _
  have m1 := h2.set hk true
  have m2 := (h3.only k1 (by simpa using fun e => h6 e.symm)).set hk true
  rw [e] at m1 m2
  refine ⟨⟨(h1.far (p := ⟨q, k, none⟩) h4 _).far (p := ⟨r, k, none⟩) h5 _, m1.only k2 (by simpa using h6), m2, h4, h5, h6, h7⟩, a, b, c, (k2.from_ (k1.from_ d ?_) ?_)⟩
  · intro x hx; have : x = q := by simpa using hx
    omega
  · intro x hx; have : x = r := by simpa using hx
    omega
theorem rmade_start (w : World) (n q r : Nat) (hq : (q = w.heap.size ∧ r = w.heap.size + 1) ∨ (q = w.heap.size + 1 ∧ r = w.heap.size)) :
    RMade w (((w.alloc (.cells (madeCells #[.bool false] n) 4)).alloc (.cells (madeCells #[.bool false] n) 4)).alloc (.cells #[.slice (some ⟨q, 0, none⟩) n n, .slice (some ⟨r, 0, none⟩) n n] 46)).drew (w.heap.size + 1 + 1) q r n (fun b => decide (b < 0)) := by
  have e : (fun b : Nat => decide (b < 0)) = fun _ => false := by funext b; simp
  rw [e]
  have s1 : (w.alloc (.cells (madeCells #[.bool false] n) 4)).heap.size = w.heap.size + 1 := by simp
  have s2 : ((w.alloc (.cells (madeCells #[.bool false] n) 4)).alloc (.cells (madeCells #[.bool false] n) 4)).heap.size = w.heap.size + 1 + 1 := by simp
  have h1 := ((Held.new w 4 (madeCells #[.bool false] n) rfl).alloc (.cells (madeCells #[.bool false] n) 4)).alloc (.cells #[.slice (some ⟨q, 0, none⟩) n n, .slice (some ⟨r, 0, none⟩) n n] 46)
  have h2 := (Held.new (w.alloc (.cells (madeCells #[.bool false] n) 4)) 4 (madeCells #[.bool false] n) s1.symm).alloc (.cells #[.slice (some ⟨q, 0, none⟩) n n, .slice (some ⟨r, 0, none⟩) n n] 46)
  have h3 := Held.new ((w.alloc (.cells (madeCells #[.bool false] n) 4)).alloc (.cells (madeCells #[.bool false] n) 4)) 46 #[.slice (some ⟨q, 0, none⟩) n n, .slice (some ⟨r, 0, none⟩) n n] s2.symm
  have hb : Below w.heap.size w (((w.alloc (.cells (madeCells #[.bool false] n) 4)).alloc (.cells (madeCells #[.bool false] n) 4)).alloc (.cells #[.slice (some ⟨q, 0, none⟩) n n, .slice (some ⟨r, 0, none⟩) n n] 46)).drew :=
    ((((Below.refl _ _).alloc (Nat.le_refl _) _).alloc (by simp) _).alloc (by simp; omega) _).drew
  rcases hq with ⟨rfl, rfl⟩ | ⟨rfl, rfl⟩
  · exact ⟨⟨h3.drew, (Truths.made h1).drewN 1, (Truths.made h2).drewN 1, by omega, by omega, by omega, Nat.le_refl _⟩, by omega, by omega, by omega, hb⟩
  · exact ⟨⟨h3.drew, (Truths.made h2).drewN 1, (Truths.made h1).drewN 1, by omega, by omega, by omega, Nat.le_refl _⟩, by omega, by omega, by omega, hb⟩
set_option maxRecDepth 100000 in
set_option maxHeartbeats 800000 in
theorem rmake_any (w : World) (n : Nat) (hn : 2 ≤ n ∧ n ≤ 4096) :
    Calls Try.prog 8 #[.int .i64 (n : Int)] w fun e w' => ∃ g q r, e = .returned (.pointer (some ⟨g, 0, none⟩)) ∧ RMade w w' g q r n (fun b => decide (b < 2)) := by
  have hmk := rmake_bools n hn.2
  have hn2 : 2 ≤ n := hn.1
  have hn9 : (n : Int) ≤ 4096 := by omega
  clear hn
  go_enter Try.func8, Try.ntmps8
  go_wp2_with fail
  go_region
  have R0 := Lib.hid (rmade_start w n w.heap.size (w.heap.size + 1) (.inl ⟨rfl, rfl⟩))
  generalize World.drew _ = w1 at R0 ⊢
  generalize w.heap.size + 1 + 1 = g at R0 ⊢
  generalize w.heap.size + 1 = r at R0 ⊢
  generalize w.heap.size = q at R0 ⊢
  rotate_left
  have R0 := Lib.hid (rmade_start w n (w.heap.size + 1) w.heap.size (.inr ⟨rfl, rfl⟩))
  generalize World.drew _ = w1 at R0 ⊢
  generalize w.heap.size + 1 + 1 = g at R0 ⊢
  generalize w.heap.size + 1 = q at R0 ⊢
  generalize w.heap.size = r at R0 ⊢
  all_goals
    clear hmk
    go_wp2_with fail
    go_loopw [4] (fun i wr => ∃ k : Nat, k ≤ 2 ∧ i = .int .i64 (k : Nat) ∧ RMade w wr g q r n (fun b => decide (b < k))) (fun i _ => 2 - (intOf i).toNat)
    case atStart => exact ⟨0, by omega, rfl, R0.out⟩
    case round =>
      obtain ⟨k, hk, rfl, hm⟩ := hrel
      have HM := Lib.hid hm
      by_cases hlt : k < 2
      · have hlt' : (k : Int) < 2 := by omega
        have hkn : k < n := by omega
        have hkn' : (k : Int) < (n : Int) := by omega
        have N := Lib.hid (hm.set hkn)
        have S := Lib.hid (hm.1.set hkn true).1
        have c0 := hm.1.blk.cell 0
        have c1 := S.out.blk.cell 1
        dsimp at c0 c1
        have ck := hm.1.now.at_ k hkn
        have fk := hm.1.now.free k hkn
        have cr := S.out.old.at_ k hkn
        have fr := S.out.old.free k hkn
        clear hm S
        go_wp2_with fail
        go_roundw
        case rel => exact ⟨k + 1, by omega, by go_num, N.out⟩
        case measure => simp [intOf]; omega
      · obtain rfl : k = 2 := by omega
        clear hm
        go_wp2_with fail
        go_ret
        exact ⟨g, q, r, rfl, HM.out⟩
end Go.Proofs.Ytaoldopkehbhkaa
