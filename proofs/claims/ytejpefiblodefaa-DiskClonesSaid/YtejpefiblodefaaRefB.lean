/-
  The document's own disk: New, last, Durable, Read, Write, Flush.
-/
import Derived.Test.YtejpefiblodefaaRefA
namespace Go.Proofs.Ytejpefiblodefaa
open Go.RowKit

def NewRef (w : World) (r : Dsk.RM) (e : Ending) (w' : World) : Prop := ∃ d F, e = .returned (.pointer (some ⟨d, 0, none⟩)) ∧ RefAt w' d F r ∧ Below w.heap.size w w' ∧ ∀ x ∈ F, w.heap.size ≤ x
def Dsk.rfresh (n : Nat) : Dsk.RM := { n := n, done := [], waits := [], fuel := -1, dead := false }

theorem rfresh_at (w : World) (n : Nat) (h2 : n ≤ 4096) : NewRef w (Dsk.rfresh n) (.returned (.pointer (some ⟨w.heap.size, 0, none⟩))) (w.alloc (.cells #[.int .i64 (n : Int), .slice none 0 0, .slice none 0 0, .int .i64 (-1), .bool false] 31)) :=
  ⟨_, _, rfl, ⟨.slice none 0 0, .slice none 0 0, ⟨Held.new _ _ _ rfl, World.ownsRow_nil _ _ _ _, World.ownsRow_nil _ _ _ _, (by intro g hg; cases hg), (by intro p hp; cases hp), (by intro p hp; cases hp), (by show (-1 : Int) ≤ -1; omega), (by show (-1 : Int) ≤ _; omega), h2⟩, rfl⟩,
    (Below.refl _ _).alloc (Nat.le_refl _) _, fun x hx => by
      rcases mem_refFoot.1 hx with rfl | hx | hx
      · exact Nat.le_refl _
      · cases hx
      · cases hx⟩

theorem rnew_any (w : World) (x : Int) : Calls Try.prog 12 #[.int .i64 x] w (NewRef w (Dsk.rfresh (clampN x))) := by
  unfold clampN
  by_cases h : x < 1
  · rw [if_pos h]
    have R := Lib.hid (rfresh_at w 1 (by omega))
    go_enter Try.func12, Try.ntmps12
    go_wp2
    go_ret
    exact R.out
  · rw [if_neg h]
    by_cases h4 : 4096 < x
    · rw [if_pos h4]
      have R := Lib.hid (rfresh_at w 4096 (by omega))
      go_enter Try.func12, Try.ntmps12
      go_wp2
      go_ret
      exact R.out
    · rw [if_neg h4]
      obtain ⟨n, rfl⟩ := Int.eq_ofNat_of_zero_le (show 0 ≤ x by omega)
      rw [Int.toNat_natCast]
      have R := Lib.hid (rfresh_at w n (by omega))
      go_enter Try.func12, Try.ntmps12
      go_wp2
      go_ret
      exact R.out

theorem str_val {a b : List Nat} (h : a = b) : Value.string (strB a) = Value.string (strB b) := by rw [h]

set_option maxHeartbeats 400000 in
theorem last_any (w : World) (A : Option Addr) (n c : Nat) (l : List (Nat × List Nat)) (i : Nat) (was : List Nat) (h : w.ownsRow 0 67 2 (.slice A n c) n (waitCells l)) (hl : l.length = n) (hn : n ≤ 9223372036854775807) :
    Calls Try.prog 39 #[.slice A n c, .int .i64 (i : Int), .string (strB was)] w fun e w' => e = .returned (.string (strB (Dsk.lastW l i was))) ∧ w = w' := by
  have HO := Lib.hid h
  have HL := Lib.hid hl
  clear h hl
  go_enter Try.func39, Try.ntmps39
  go_wp2
  go_loop [2, 7] (fun v k => ∃ j : Nat, j ≤ n ∧ k = .int .i64 j ∧ v = .string (strB (Dsk.lastW (l.take j) i was))) (fun _ k => n - (intOf k).toNat)
  case atStart => exact ⟨0, by omega, rfl, rfl⟩
  case round =>
    obtain ⟨j, hj, rfl, rfl⟩ := hrel
    by_cases hlt : j < n
    · obtain ⟨g, cap, hv, _, _⟩ := HO.out.form (by omega)
      have hA : A = some ⟨g, 0, none⟩ := by injection hv
      subst hA
      have hjl : j < l.length := by rw [HL.out]; exact hlt
      obtain ⟨p, hp⟩ : ∃ p, l[j]? = some p := ⟨_, List.getElem?_eq_getElem hjl⟩
      have hc := waitCells_at l j p hp
      have c0 := (HO.out.cellAt (j * 2) (by omega)).trans hc.1
      have c1 : w.cell? ⟨g, j * 2 + 1, none⟩ = some (.string (strB p.2)) := (HO.out.cellAt (j * 2 + 1) (by omega)).trans hc.2
      have ht : l.take (j + 1) = l.take j ++ [p] := by
        rw [List.take_succ_eq_append_getElem hjl]
        rw [List.getElem?_eq_getElem hjl] at hp
        injection hp with hp
        rw [hp]
      have HT := Lib.hid ht
      have j0 : (0 : Int) ≤ (j : Int) := by omega
      have j1 : (j : Int) < (n : Int) := by omega
      clear hv hp hc ht hjl
      by_cases he : p.1 = i
      · have he' : ((p.1 : Int) == (i : Int)) = true := by simp [he]
        have HE := Lib.hid he
        clear he
        go_wp2_with fail
        go_round
        case rel => exact ⟨j + 1, by omega, by go_num, by rw [HT.out, Dsk.lastW_snoc, if_pos HE.out]⟩
        case measure => simp [intOf]; omega
      · have he' : ((p.1 : Int) == (i : Int)) = false := by simp; omega
        have HE := Lib.hid he
        clear he
        go_wp2_with fail
        go_round
        case rel => exact ⟨j + 1, by omega, by go_num, by rw [HT.out, Dsk.lastW_snoc, if_neg HE.out]⟩
        case measure => simp [intOf]; omega
    · obtain rfl : j = n := by omega
      have HT : Hid (l.take j = l) := List.take_of_length_le (by rw [HL.out]; exact Nat.le_refl _)
      go_wp2_with fail
      go_ret
      rw [HT.out]
      exact ⟨rfl, rfl⟩

theorem RefIs.below' {w w' : World} {d : Nat} {vd vw : Value} {r : Dsk.RM} (h : RefIs w d vd vw r) (k : Below w.drew.heap.size w.drew w') : RefIs w' d vd vw r :=
  h.only (Only.of_below (F := []) ((Below.refl _ _).drew.trans k)) (fun _ _ hx => by cases hx)
/-- What the document's Read and Durable answer. -/
def RTells (w : World) (x : Int) (l : List Nat) (e : Ending) (w' : World) : Prop :=
  e = .returned (.tuple #[.string (if x = 0 then strB l else ⟨#[]⟩), .int .i64 x]) ∧ Below w.heap.size w w'

def Dsk.RM.durErr (r : Dsk.RM) (i : Int) : Int := if ¬ (0 ≤ i ∧ i < r.n) then 1 else 0
def Dsk.RM.readErr (r : Dsk.RM) (i : Int) : Int := if r.dead then 10 else r.durErr i
def Dsk.RM.durText (r : Dsk.RM) (i : Nat) : List Nat := Dsk.lastW r.done i (sec [])
def Dsk.RM.readText (r : Dsk.RM) (i : Nat) : List Nat := Dsk.lastW r.waits i (r.durText i)

set_option maxHeartbeats 400000 in
theorem rdur_any (w : World) (d : Nat) (F : List Nat) (r : Dsk.RM) (i : Int) (h : RefAt w d F r) (hn : r.done.length ≤ 9223372036854775807) :
    Calls Try.prog 31 #[.pointer (some ⟨d, 0, none⟩), .int .i64 i] w (RTells w (r.durErr i) (r.durText i.toNat)) := by
  obtain ⟨vd, vw, h, rfl⟩ := h
  have c0 := h.cells.1
  by_cases hi : 0 ≤ i ∧ i < r.n
  · have e : r.durErr i = 0 := by unfold Dsk.RM.durErr; rw [if_neg (fun c => c hi)]
    rw [e]
    obtain ⟨k, rfl⟩ := Int.eq_ofNat_of_zero_le hi.1
    rw [Int.toNat_natCast]
    obtain ⟨⟨A, c, rfl⟩, _⟩ := h.form
    have H := Lib.hid h
    have c1 := h.cells.2.1
    have h0 : ¬ (k : Int) < 0 := by omega
    have h1 : decide (r.n ≤ k) = false := by simp; omega
    clear e hi h
    go_enter Try.func31, Try.ntmps31
    go_wp2_with fail
    go_region_with (first
      | (go_at_call 35; refine (full_str _ [] (by simp) (by simp)).mono ?_; rintro e w1 ⟨rfl, hb1⟩; have c1' := (hb1.cell (p := ⟨d, 1, none⟩) H.out.blk.lt).trans c1; have H1 := Lib.hid (H.out.below' hb1); have B1 := Lib.hid hb1; clear hb1)
      | (go_at_call 39; refine (last_any _ _ _ _ r.done k (sec []) H1.out.done rfl hn).mono ?_; rintro e w' ⟨rfl, rfl⟩))
    all_goals
      go_wp2_with fail
      go_ret2
      exact ⟨rfl, (Below.refl _ _).drew.trans B1.out⟩
  · have e : r.durErr i = 1 := by unfold Dsk.RM.durErr; rw [if_pos hi]
    rw [e]
    clear e h
    by_cases h0 : i < 0
    · clear hi
      go_enter Try.func31, Try.ntmps31
      go_wp2_with fail
      go_ret2
      exact ⟨rfl, Below.refl _ _⟩
    · have h0' : 0 ≤ i := by omega
      have h1 : (r.n : Int) ≤ i := by omega
      clear hi
      go_enter Try.func31, Try.ntmps31
      go_wp2_with fail
      go_ret2
      exact ⟨rfl, Below.refl _ _⟩

theorem Dsk.RM.durText_bytes {r : Dsk.RM} (h : ∀ p ∈ r.done, ∀ x ∈ p.2, x < 256) (i : Nat) : ∀ x ∈ r.durText i, x < 256 := Dsk.lastW_bytes h i (sec_bytes (by simp))
theorem Dsk.RM.readText_bytes {r : Dsk.RM} (h : ∀ p ∈ r.done, ∀ x ∈ p.2, x < 256) (hw : ∀ p ∈ r.waits, ∀ x ∈ p.2, x < 256) (i : Nat) : ∀ x ∈ r.readText i, x < 256 := Dsk.lastW_bytes hw i (Dsk.RM.durText_bytes h i)

set_option maxHeartbeats 400000 in
theorem rread_any (w : World) (d : Nat) (F : List Nat) (r : Dsk.RM) (i : Int) (h : RefAt w d F r) (hn : r.done.length ≤ 9223372036854775807) (hn2 : r.waits.length ≤ 9223372036854775807) :
    Calls Try.prog 28 #[.pointer (some ⟨d, 0, none⟩), .int .i64 i] w (RTells w (r.readErr i) (r.readText i.toNat)) := by
  have HD := Lib.hid (rdur_any w d F r i h hn)
  obtain ⟨vd, vw, h, rfl⟩ := h
  have c4 := h.cells.2.2.2.2
  by_cases hd : r.dead = true
  · have e : r.readErr i = 10 := by simp [Dsk.RM.readErr, hd]
    rw [e]
    clear e h HD
    go_enter Try.func28, Try.ntmps28
    go_wp2_with fail
    go_ret2
    exact ⟨rfl, Below.refl _ _⟩
  · have hd' : r.dead = false := by simpa using hd
    have e : r.readErr i = r.durErr i := by simp [Dsk.RM.readErr, hd']
    rw [e]
    by_cases hi : 0 ≤ i ∧ i < r.n
    · have e2 : r.durErr i = 0 := by unfold Dsk.RM.durErr; rw [if_neg (fun c => c hi)]
      rw [e2] at HD ⊢
      obtain ⟨k, rfl⟩ := Int.eq_ofNat_of_zero_le hi.1
      rw [Int.toNat_natCast] at HD ⊢
      obtain ⟨_, ⟨A, c, rfl⟩⟩ := h.form
      have H := Lib.hid h
      clear e e2 hd h hi
      go_enter Try.func28, Try.ntmps28
      go_wp2_with fail
      refine HD.out.mono ?_
      rintro e w1 ⟨rfl, hb1⟩
      have H1 := Lib.hid (H.out.only (Only.of_below (F := []) hb1) (fun _ _ hx => by cases hx))
      have c2 := H1.out.cells.2.2.1
      have B1 := Lib.hid hb1
      clear hb1
      rw [if_pos rfl]
      go_wp2_with fail
      refine (last_any _ _ _ _ r.waits k (r.durText k) H1.out.waits rfl hn2).mono ?_
      rintro e w' ⟨rfl, rfl⟩
      go_wp2_with fail
      go_ret2
      exact ⟨rfl, B1.out⟩
    · have e2 : r.durErr i = 1 := by unfold Dsk.RM.durErr; rw [if_pos hi]
      rw [e2] at HD ⊢
      clear e e2 hd h hi
      go_enter Try.func28, Try.ntmps28
      go_wp2_with fail
      refine HD.out.mono ?_
      rintro e w1 ⟨rfl, hb1⟩
      have B1 := Lib.hid hb1
      clear hb1
      rw [if_neg (by decide)]
      go_wp2_with fail
      go_ret2
      exact ⟨rfl, B1.out⟩

theorem infoP : (Try.prog.info? 67).map (fun i => (i.zero, i.size, i.bytes)) = some (some (.agg #[.int .i64 0, .string ⟨#[]⟩]), 2, 24) := by kernel_rfl

def Dsk.RM.flushErr (r : Dsk.RM) : Int := if r.dead then 10 else if r.fuel = 0 then 10 else 0
def Dsk.RM.flush (r : Dsk.RM) : Dsk.RM := if r.dead then r else if r.fuel = 0 then { r with dead := true } else { r.uses with done := r.done ++ r.waits, waits := [] }
theorem Dsk.RM.uses_done (r : Dsk.RM) : r.uses.done = r.done := by unfold uses; split; rfl; split <;> rfl
theorem Dsk.RM.uses_waits (r : Dsk.RM) : r.uses.waits = r.waits := by unfold uses; split; rfl; split <;> rfl
theorem Dsk.RM.uses_n (r : Dsk.RM) : r.uses.n = r.n := by unfold uses; split; rfl; split <;> rfl

/-- A new row in the field done or waits. -/
theorem RefIs.redone {w0 w w3 : World} {d : Nat} {vd vw v' : Value} {r : Dsk.RM} {more : List (Nat × List Nat)} (h : RefIs w d vd vw r) (hown : w3.ownsRow 0 67 2 v' (r.done.length + more.length) (waitCells r.done ++ waitCells more))
    (hm : ∀ p ∈ more, ∀ x ∈ p.2, x < 256) (ho : Only (refFoot d vd vw) w0 w) (hg : w.grownBy w3 vd.ownBlock) (hat : v'.ownBlock = vd.ownBlock ∨ v'.ownBlock = some w.heap.size) :
    RefIs (w3.setCell ⟨d, 1, none⟩ v') d v' vw { r with done := r.done ++ more } ∧ Only (refFoot d vd vw) w0 (w3.setCell ⟨d, 1, none⟩ v') ∧ ∀ x ∈ refFoot d v' vw, x ∈ refFoot d vd vw ∨ w0.heap.size ≤ x := by
  have hblk : Held w3 d 31 #[.int .i64 (r.n : Int), vd, vw, .int .i64 r.fuel, .bool r.dead] := (hg.block d h.blk.lt (fun e => h.ne_d.1 e.symm)).trans h.blk
  have hw : w3.ownsRow 0 67 2 vw r.waits.length (waitCells r.waits) := h.waits.kept hg (by
    cases hv : vw.ownBlock with
    | none => exact .inl rfl
    | some g => exact .inr (fun e => h.ne g (by rw [← e]) hv))
  have hne : ∀ g, v'.ownBlock = some g → vw.ownBlock ≠ some g := by
    intro g hg' e
    rcases hat with h1 | h1
    · exact h.ne g (h1.symm.trans hg') e
    · have e1 : w.heap.size = g := by
        have := h1.symm.trans hg'
        injection this
      have := (h.waits.lt g e).2
      omega
  have hvd : v'.ownBlock ≠ some d := fun e => hblk.ne_row hown (by decide) d e rfl
  have fin : RefIs (w3.setCell ⟨d, 1, none⟩ v') d v' vw { r with done := r.done ++ more } := by
    refine ⟨hblk.set_ 1 _, ?_, ownsRow_far hw (fun g hg' e => h.ne_d.2 (hg'.trans (by rw [e]))) _, hne, ?_, h.wb, h.f0, h.f1, h.nn⟩
    · show World.ownsRow _ 0 _ 2 v' (r.done ++ more).length (waitCells (r.done ++ more))
      rw [List.length_append, waitCells_append]
      exact ownsRow_far hown (fun g hg' e => hvd (hg'.trans (by rw [e]))) _
    · intro p hp
      rcases List.mem_append.1 hp with hp | hp
      · exact h.db p hp
      · exact hm p hp
  refine ⟨fin, (ho.grown hg (fun x hx => .inl (mem_refFoot.2 (.inr (.inl hx))))).setCell (.inl (by simp [refFoot])) _, fun x hx => ?_⟩
  rcases mem_refFoot.1 hx with rfl | hx | hx
  · exact .inl (by simp [refFoot])
  · rcases hat with h1 | h1
    · exact .inl (mem_refFoot.2 (.inr (.inl (h1.symm.trans hx))))
    · right
      have e1 : w.heap.size = x := by
        have := h1.symm.trans hx
        injection this
      have := ho.size
      omega
  · exact .inl (mem_refFoot.2 (.inr (.inr hx)))
theorem RefIs.rewait {w0 w w3 : World} {d : Nat} {vd vw v' : Value} {r : Dsk.RM} {more : List (Nat × List Nat)} (h : RefIs w d vd vw r) (hown : w3.ownsRow 0 67 2 v' (r.waits.length + more.length) (waitCells r.waits ++ waitCells more))
    (hm : ∀ p ∈ more, ∀ x ∈ p.2, x < 256) (ho : Only (refFoot d vd vw) w0 w) (hg : w.grownBy w3 vw.ownBlock) (hat : v'.ownBlock = vw.ownBlock ∨ v'.ownBlock = some w.heap.size) :
    RefIs (w3.setCell ⟨d, 2, none⟩ v') d vd v' { r with waits := r.waits ++ more } ∧ Only (refFoot d vd vw) w0 (w3.setCell ⟨d, 2, none⟩ v') ∧ ∀ x ∈ refFoot d vd v', x ∈ refFoot d vd vw ∨ w0.heap.size ≤ x := by
  have hblk : Held w3 d 31 #[.int .i64 (r.n : Int), vd, vw, .int .i64 r.fuel, .bool r.dead] := (hg.block d h.blk.lt (fun e => h.ne_d.2 e.symm)).trans h.blk
  have hd : w3.ownsRow 0 67 2 vd r.done.length (waitCells r.done) := h.done.kept hg (by
    cases hv : vd.ownBlock with
    | none => exact .inl rfl
    | some g => exact .inr (fun e => h.ne g hv (by rw [← e])))
  have hne : ∀ g, vd.ownBlock = some g → v'.ownBlock ≠ some g := by
    intro g hg' e
    rcases hat with h1 | h1
    · exact h.ne g hg' (h1.symm.trans e)
    · have e1 : w.heap.size = g := by
        have := h1.symm.trans e
        injection this
      have := (h.done.lt g hg').2
      omega
  have hvd : v'.ownBlock ≠ some d := fun e => hblk.ne_row hown (by decide) d e rfl
  have fin : RefIs (w3.setCell ⟨d, 2, none⟩ v') d vd v' { r with waits := r.waits ++ more } := by
    refine ⟨hblk.set_ 2 _, ownsRow_far hd (fun g hg' e => h.ne_d.1 (hg'.trans (by rw [e]))) _, ?_, hne, h.db, ?_, h.f0, h.f1, h.nn⟩
    · show World.ownsRow _ 0 _ 2 v' (r.waits ++ more).length (waitCells (r.waits ++ more))
      rw [List.length_append, waitCells_append]
      exact ownsRow_far hown (fun g hg' e => hvd (hg'.trans (by rw [e]))) _
    · intro p hp
      rcases List.mem_append.1 hp with hp | hp
      · exact h.wb p hp
      · exact hm p hp
  refine ⟨fin, (ho.grown hg (fun x hx => .inl (mem_refFoot.2 (.inr (.inr hx))))).setCell (.inl (by simp [refFoot])) _, fun x hx => ?_⟩
  rcases mem_refFoot.1 hx with rfl | hx | hx
  · exact .inl (by simp [refFoot])
  · exact .inl (mem_refFoot.2 (.inr (.inl hx)))
  · rcases hat with h1 | h1
    · exact .inl (mem_refFoot.2 (.inr (.inr (h1.symm.trans hx))))
    · right
      have e1 : w.heap.size = x := by
        have := h1.symm.trans hx
        injection this
      have := ho.size
      omega
end Go.Proofs.Ytejpefiblodefaa
