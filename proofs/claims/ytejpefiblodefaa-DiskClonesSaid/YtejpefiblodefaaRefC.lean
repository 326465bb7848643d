/-
  The document's own disk: Flush, Write, Crash.
-/
import Derived.Test.YtejpefiblodefaaRefB
namespace Go.Proofs.Ytejpefiblodefaa
open Go.RowKit

theorem news_drew {w : World} {e : TypeId} (a b : Value) : ∀ j u, [a, b][j]? = some u → (w.alloc (.cells #[a, b] e)).drew.cell? ((⟨w.heap.size, 0, none⟩ : Addr).add j) = some u := World.news_of_block (heap_alloc_new w (.cells #[a, b] e))
theorem one_bytes {k : Nat} {l : List Nat} (h : ∀ x ∈ l, x < 256) : ∀ p ∈ [(k, l)], ∀ x ∈ p.2, x < 256 := by
  intro p hp
  have : p = (k, l) := by simpa using hp
  subst this
  exact h

section
variable {w w1 w3 : World} {d : Nat} {vd vw : Value} {r : Dsk.RM} {F : List Nat}
theorem RefIs.keep1 (h : RefIs w d vd vw r) (hg : w.drew.grownBy w3 vd.ownBlock) : Held w3 d 31 #[.int .i64 (r.n : Int), vd, vw, .int .i64 r.fuel, .bool r.dead] := (hg.block d h.blk.lt (fun e => h.ne_d.1 e.symm)).trans h.blk
theorem RefIs.keep2 (h : RefIs w d vd vw r) (hg : w.grownBy w3 vw.ownBlock) : Held w3 d 31 #[.int .i64 (r.n : Int), vd, vw, .int .i64 r.fuel, .bool r.dead] := (hg.block d h.blk.lt (fun e => h.ne_d.2 e.symm)).trans h.blk
theorem RefIs.drew (h : RefIs w d vd vw r) : RefIs w.drew d vd vw r := h.only ((Only.refl [] w).drew) (fun _ _ hx => by cases hx)
theorem RefIs.alloc (h : RefIs w d vd vw r) (o : Obj) : RefIs (w.alloc o) d vd vw r := h.only ((Only.refl [] w).alloc o) (fun _ _ hx => by cases hx)
/-- Nothing waits any more. -/
theorem RefIs.clear_ (h : RefIs w d vd vw r) : RefIs (w.setCell ⟨d, 2, none⟩ (.slice none 0 0)) d vd (.slice none 0 0) { r with waits := [] } ∧ RTurned w d (refFoot d vd vw) (w.setCell ⟨d, 2, none⟩ (.slice none 0 0)) { r with waits := [] } := by
  have fin : RefIs (w.setCell ⟨d, 2, none⟩ (.slice none 0 0)) d vd (.slice none 0 0) { r with waits := [] } :=
    ⟨h.blk.set_ 2 _, ownsRow_far h.done (fun g hg' e => h.ne_d.1 (hg'.trans (by rw [e]))) _, World.ownsRow_nil _ _ _ _, (fun g _ e => by cases e), h.db, (by intro p hp; cases hp), h.f0, h.f1, h.nn⟩
  refine ⟨fin, _, ⟨_, _, fin, rfl⟩, ref_only _, fun x hx => .inl ?_⟩
  rcases mem_refFoot.1 hx with rfl | hx | hx
  · simp [refFoot]
  · exact mem_refFoot.2 (.inr (.inl hx))
  · cases hx
end

set_option maxRecDepth 100000 in
set_option maxHeartbeats 800000 in
theorem rflush_go (w : World) (d : Nat) (F : List Nat) (r r2 : Dsk.RM) (h : RefAt w d F r) (hr2 : r.uses = r2) (hn : r2.done.length + r2.waits.length ≤ 5800000000000) (hd : r.dead = false) (hf : r.fuel ≠ 0) :
    Calls Try.prog 29 #[.pointer (some ⟨d, 0, none⟩)] w fun e w' => e = .returned (.int .i64 0) ∧ RTurned w d F w' { r2 with done := r2.done ++ r2.waits, waits := [] } := by
  have c4 : w.cell? ⟨d, 4, none⟩ = some (.bool r.dead) := by obtain ⟨vd, vw, h, rfl⟩ := h; exact h.cells.2.2.2.2
  have HU := Lib.hid (uses_any w d F r h)
  rw [if_neg hf, hr2] at HU
  clear h hf hr2
  go_enter Try.func29, Try.ntmps29
  go_wp2_with fail
  refine HU.out.mono ?_
  rintro e w1 ⟨rfl, F1, ⟨vd, vw, hI, rfl⟩, hO, hF⟩
  have H := Lib.hid hI
  have c1 := hI.cells.2.1
  have c2 := hI.cells.2.2.1
  have hlt := hI.blk.lt
  obtain ⟨i0, hi0, hz0, hz1, hz2⟩ := info_parts infoP
  have K1 := Lib.hid (waitCells_one r2.waits)
  have k3 : r2.done.length + r2.waits.length ≤ maxLen := by simp only [maxLen]; omega
  have k4 : (r2.done.length + r2.waits.length) * 24 ≤ 140737488355328 := by omega
  have K3 := Lib.hid k3
  have K4 := Lib.hid k4
  clear hI k3 k4
  go_wp2_with fail
  go_region_law (refine step_append_rows _ rfl (.tmp 16) (.tmp 20) 29 rfl 0 0 67 i0 (.agg #[.int .i64 0, .string ⟨#[]⟩]) 2 24 Try.underlying29 hi0 hz0 hz1 hz2 rfl ?q2 vd r2.done.length (waitCells r2.done) ?q3 (ownsRow_drew H.out.done) vw r2.waits.length (waitCells r2.waits) ?q5 (ownsRow_drew H.out.waits) K1.out K3.out K4.out (Nat.zero_le _) ?_; (case q2 => decide); (case q3 => simp [Act.eval]); (case q5 => simp [Act.eval]); intro v' w3 hown hgrow hat; have g2 := (H.out.keep1 hgrow).cell 1; have g3 := (H.out.keep1 hgrow).frozen 1; have g4 := (H.out.keep1 hgrow).cell 2; have g5 := (H.out.keep1 hgrow).frozen 2; obtain ⟨A', c', rfl⟩ := own_form hown)
  all_goals
    obtain ⟨f1, t1, t2⟩ := H.out.drew.redone hown H.out.wb ((Only.refl _ w1).drew) hgrow hat
    have T4 := Lib.hid (RTurned.trans hO hF (RTurned.trans t1 t2 f1.clear_.2))
    clear g2 g3 g4 g5 hown hgrow hat
    have g4 := f1.cells.2.2.1
    have g5 := f1.blk.frozen 2
    clear f1 t1 t2
    go_wp2_with fail
    go_ret
    exact ⟨rfl, T4.out⟩

theorem rflush_any (w : World) (d : Nat) (F : List Nat) (r : Dsk.RM) (h : RefAt w d F r) (hn : r.done.length + r.waits.length ≤ 5800000000000) :
    Calls Try.prog 29 #[.pointer (some ⟨d, 0, none⟩)] w fun e w' => e = .returned (.int .i64 r.flushErr) ∧ RTurned w d F w' r.flush := by
  by_cases hd : r.dead = true
  · have e : r.flushErr = 10 := by simp [Dsk.RM.flushErr, hd]
    have e2 : r.flush = r := by simp [Dsk.RM.flush, hd]
    rw [e, e2]
    have c4 : w.cell? ⟨d, 4, none⟩ = some (.bool r.dead) := by obtain ⟨vd, vw, h, rfl⟩ := h; exact h.cells.2.2.2.2
    have HH := Lib.hid h
    clear e e2 h
    go_enter Try.func29, Try.ntmps29
    go_wp2_with fail
    go_ret
    exact ⟨rfl, RTurned.refl HH.out⟩
  · have hd' : r.dead = false := by simpa using hd
    by_cases hf : r.fuel = 0
    · have e : r.flushErr = 10 := by simp [Dsk.RM.flushErr, hf]
      have e2 : r.flush = { r with dead := true } := by simp [Dsk.RM.flush, hd', hf]
      have eb : r.uses = { r with dead := true } := by simp [Dsk.RM.uses, hf]
      rw [e, e2]
      have c4 : w.cell? ⟨d, 4, none⟩ = some (.bool r.dead) := by obtain ⟨vd, vw, h, rfl⟩ := h; exact h.cells.2.2.2.2
      have HU := Lib.hid (uses_any w d F r h)
      rw [if_pos hf, eb] at HU
      clear e e2 eb h hd hf
      go_enter Try.func29, Try.ntmps29
      go_wp2_with fail
      refine HU.out.mono ?_
      rintro e w1 ⟨rfl, ht⟩
      go_wp2_with fail
      go_ret
      exact ⟨rfl, ht⟩
    · have e : r.flushErr = 0 := by simp [Dsk.RM.flushErr, hd', hf]
      have e2 : r.flush = { r.uses with done := r.uses.done ++ r.uses.waits, waits := [] } := by
        simp only [Dsk.RM.flush, hd', if_neg hf, r.uses_done, r.uses_waits]
        rfl
      rw [e, e2]
      exact rflush_go w d F r r.uses h rfl (by rw [r.uses_done, r.uses_waits]; exact hn) hd' hf

def Dsk.RM.writeErr (r : Dsk.RM) (i : Int) (len : Nat) : Int := if r.dead then 10 else if ¬ (0 ≤ i ∧ i < r.n) ∨ 512 < len then 1 else if r.fuel = 0 then 10 else 0
def Dsk.RM.write (r : Dsk.RM) (i : Int) (l : List Nat) : Dsk.RM :=
  if r.dead then r else if ¬ (0 ≤ i ∧ i < r.n) ∨ 512 < l.length then r else if r.fuel = 0 then { r with dead := true } else { r.uses with waits := r.waits ++ [(i.toNat, sec l)] }

set_option maxRecDepth 100000 in
set_option maxHeartbeats 800000 in
theorem rwrite_go (w : World) (d : Nat) (F : List Nat) (r r2 : Dsk.RM) (k : Nat) (l : List Nat) (h : RefAt w d F r) (hr2 : r.uses = r2) (hl : ∀ x ∈ l, x < 256) (h5 : l.length ≤ 512) (hn : r2.waits.length ≤ 5800000000000) (hd : r.dead = false) (hk : k < r.n) (hf : r.fuel ≠ 0) :
    Calls Try.prog 18 #[.pointer (some ⟨d, 0, none⟩), .int .i64 (k : Int), .string (strB l)] w fun e w' => e = .returned (.int .i64 0) ∧ RTurned w d F w' { r2 with waits := r2.waits ++ [(k, sec l)] } := by
  have c4 : w.cell? ⟨d, 4, none⟩ = some (.bool r.dead) := by obtain ⟨vd, vw, h, rfl⟩ := h; exact h.cells.2.2.2.2
  have c0 : w.cell? ⟨d, 0, none⟩ = some (.int .i64 (r.n : Int)) := by obtain ⟨vd, vw, h, rfl⟩ := h; exact h.cells.1
  have HU := Lib.hid (uses_any w d F r h)
  rw [if_neg hf, hr2] at HU
  have hsz : ((strB l).size : Int) ≤ 512 := by rw [strB_size]; omega
  have k0 : ¬ (k : Int) < 0 := by omega
  have k1 : decide (r.n ≤ k) = false := by simp; omega
  have HL8 := Lib.hid hl
  clear h hf hr2 hl
  go_enter Try.func18, Try.ntmps18
  go_wp2_with fail
  refine HU.out.mono ?_
  rintro e w1 ⟨rfl, F1, ⟨vd, vw, hI, rfl⟩, hO, hF⟩
  have H := Lib.hid hI
  have c2 := hI.cells.2.2.1
  have hlt := hI.blk.lt
  obtain ⟨i0, hi0, hz0, hz1, hz2⟩ := info_parts infoP
  have k3 : r2.waits.length + 1 ≤ maxLen := by simp only [maxLen]; omega
  have k4 : (r2.waits.length + 1) * 24 ≤ 140737488355328 := by omega
  have K3 := Lib.hid k3
  have K4 := Lib.hid k4
  clear hI k3 k4 c0 c4
  have q8 : ∀ u ∈ ([.int .i64 (k : Int), strV (sec l)] : List Value), u.oneCell' = true := by intro u hu; simp only [List.mem_cons, List.not_mem_nil, or_false] at hu; rcases hu with rfl | rfl <;> rfl
  have K2 := Lib.hid q8
  clear q8
  go_wp2_with fail
  go_region_law (first
    | (refine step_append_lies _ rfl (.tmp 35) (.tmp 40) 29 rfl 0 67 i0 (.agg #[.int .i64 0, .string ⟨#[]⟩]) 2 24 Try.underlying29 hi0 hz0 hz1 hz2 rfl ?q2 vw r2.waits.length (waitCells r2.waits) ?q3 (H5.out.waits.alloc (.cells #[.int .i64 (k : Int), strV (sec l)] 67)) ⟨w5.heap.size, 0, none⟩ 1 1 [.int .i64 (k : Int), strV (sec l)] ?q5 rfl (World.news_of_block (heap_alloc_new w5 (.cells #[.int .i64 (k : Int), strV (sec l)] 67))) K2.out ?q9 K3.out K4.out (Nat.zero_le _) _ rfl ?_; (case q2 => decide); (case q3 => simp [Act.eval]); (case q5 => simp [Act.eval]); (case q9 => decide); intro g cap w3 hown hgrow hat hlt3; have g2 := ((H5.out.alloc _).keep2 hgrow).cell 2; have g3 := ((H5.out.alloc _).keep2 hgrow).frozen 2)
    | (go_simp; go_at_call 35; refine (full_str _ l HL8.out h5).mono ?_; rintro e w5 ⟨rfl, hb5⟩; have H5 := Lib.hid (H.out.below' hb5); have B5 := Lib.hid hb5; have c5 := H5.out.cells.2.2.1; have hlt5 := H5.out.blk.lt; clear hb5))
  all_goals
    have hat' : (Value.slice (some ⟨g, 0, none⟩) (r2.waits.length + 1) cap).ownBlock = vw.ownBlock ∨ (Value.slice (some ⟨g, 0, none⟩) (r2.waits.length + 1) cap).ownBlock = some (w5.alloc (.cells #[.int .i64 (k : Int), strV (sec l)] 67)).heap.size := by
      rcases hat with h1 | h1
      · exact .inl h1.symm
      · right
        rw [h1]
        rfl
    obtain ⟨f1, t1, t2⟩ := (H5.out.alloc (.cells #[.int .i64 (k : Int), strV (sec l)] 67)).rewait (more := [(k, sec l)]) hown (one_bytes (sec_bytes HL8.out)) ((((Only.refl _ w1).drew).under B5.out).alloc _) hgrow hat'
    have T4 := Lib.hid (RTurned.trans hO hF ⟨_, ⟨_, _, f1, rfl⟩, t1, t2⟩)
    clear g2 g3 hown hgrow hat hlt3 hat' f1 t1 t2
    go_wp2_with fail
    go_ret
    exact ⟨rfl, T4.out⟩

theorem rwrite_any (w : World) (d : Nat) (F : List Nat) (r : Dsk.RM) (i : Int) (l : List Nat) (h : RefAt w d F r) (hl : ∀ x ∈ l, x < 256) (hl2 : l.length ≤ 9223372036854775807) (hn : r.waits.length ≤ 5800000000000) :
    Calls Try.prog 18 #[.pointer (some ⟨d, 0, none⟩), .int .i64 i, .string (strB l)] w fun e w' => e = .returned (.int .i64 (r.writeErr i l.length)) ∧ RTurned w d F w' (r.write i l) := by
  have HH := Lib.hid h
  have c4 : w.cell? ⟨d, 4, none⟩ = some (.bool r.dead) := by obtain ⟨vd, vw, h, rfl⟩ := h; exact h.cells.2.2.2.2
  have c0 : w.cell? ⟨d, 0, none⟩ = some (.int .i64 (r.n : Int)) := by obtain ⟨vd, vw, h, rfl⟩ := h; exact h.cells.1
  have hsz := strB_size l
  by_cases hd : r.dead = true
  · have e : r.writeErr i l.length = 10 := by simp [Dsk.RM.writeErr, hd]
    have e2 : r.write i l = r := by simp [Dsk.RM.write, hd]
    rw [e, e2]
    clear e e2 h hsz
    go_enter Try.func18, Try.ntmps18
    go_wp2_with fail
    go_ret
    exact ⟨rfl, RTurned.refl HH.out⟩
  · have hd' : r.dead = false := by simpa using hd
    by_cases hi : 0 ≤ i ∧ i < r.n
    · by_cases h512 : 512 < l.length
      · have e : r.writeErr i l.length = 1 := by simp only [Dsk.RM.writeErr, hd', if_pos (Or.inr h512)]; rfl
        have e2 : r.write i l = r := by simp only [Dsk.RM.write, hd', if_pos (Or.inr h512)]; rfl
        rw [e, e2]
        have h5 : (512 : Int) < ((strB l).size : Int) := by omega
        have k0 : ¬ i < 0 := by omega
        have k1 : decide ((r.n : Int) ≤ i) = false := by simp; omega
        clear e e2 h hd hi h512 hsz
        go_enter Try.func18, Try.ntmps18
        go_wp2_with fail
        go_ret
        exact ⟨rfl, RTurned.refl HH.out⟩
      · have hnn : ¬ (¬ (0 ≤ i ∧ i < r.n) ∨ 512 < l.length) := fun c => c.elim (fun c => c hi) h512
        by_cases hf : r.fuel = 0
        · have e : r.writeErr i l.length = 10 := by simp only [Dsk.RM.writeErr, hd', if_neg hnn, hf]; rfl
          have e2 : r.write i l = { r with dead := true } := by simp only [Dsk.RM.write, hd', if_neg hnn, hf]; rfl
          have eb : r.uses = { r with dead := true } := by simp [Dsk.RM.uses, hf]
          rw [e, e2]
          have HU := Lib.hid (uses_any w d F r h)
          rw [if_pos hf, eb] at HU
          have h5 : ((strB l).size : Int) ≤ 512 := by omega
          have k0 : ¬ i < 0 := by omega
          have k1 : decide ((r.n : Int) ≤ i) = false := by simp; omega
          clear e e2 eb h hd hi h512 hnn hf hsz
          go_enter Try.func18, Try.ntmps18
          go_wp2_with fail
          refine HU.out.mono ?_
          rintro e w1 ⟨rfl, ht⟩
          go_wp2_with fail
          go_ret
          exact ⟨rfl, ht⟩
        · have e : r.writeErr i l.length = 0 := by simp only [Dsk.RM.writeErr, hd', if_neg hnn, if_neg hf]; rfl
          have e2 : r.write i l = { r.uses with waits := r.uses.waits ++ [(i.toNat, sec l)] } := by simp only [Dsk.RM.write, hd', if_neg hnn, if_neg hf, r.uses_waits]; rfl
          rw [e, e2]
          obtain ⟨k, rfl⟩ := Int.eq_ofNat_of_zero_le hi.1
          exact rwrite_go w d F r r.uses k l HH.out rfl hl (by omega) (by rw [r.uses_waits]; exact hn) hd' (by omega) hf
    · have e : r.writeErr i l.length = 1 := by simp only [Dsk.RM.writeErr, hd', if_pos (Or.inl hi)]; rfl
      have e2 : r.write i l = r := by simp only [Dsk.RM.write, hd', if_pos (Or.inl hi)]; rfl
      rw [e, e2]
      by_cases h0 : i < 0
      · clear e e2 h hd hi hsz
        go_enter Try.func18, Try.ntmps18
        go_wp2_with fail
        go_ret
        exact ⟨rfl, RTurned.refl HH.out⟩
      · have h0' : 0 ≤ i := by omega
        have k1 : (r.n : Int) ≤ i := by omega
        clear e e2 h hd hi hsz h0
        go_enter Try.func18, Try.ntmps18
        go_wp2_with fail
        go_ret
        exact ⟨rfl, RTurned.refl HH.out⟩

/-- Those of the writes w that k keeps. -/
def Dsk.keepW : List (Nat × List Nat) → List Bool → List (Nat × List Nat)
  | [], _ => []
  | p :: r, k => (if k.headD false = true then [p] else []) ++ Dsk.keepW r k.tail
theorem Dsk.keepW_snoc (w : List (Nat × List Nat)) (p : Nat × List Nat) : ∀ k, Dsk.keepW (w ++ [p]) k = Dsk.keepW w k ++ (if k.getD w.length false = true then [p] else []) := by
  induction w with
  | nil => intro k; cases k <;> simp [Dsk.keepW]
  | cons q r ih =>
    intro k
    simp only [List.cons_append, Dsk.keepW, List.length_cons]
    rw [ih]
    cases k <;> simp
theorem Dsk.keepW_length (w : List (Nat × List Nat)) : ∀ k, (Dsk.keepW w k).length ≤ w.length := by
  induction w with
  | nil => intro k; exact Nat.le_refl _
  | cons q r ih =>
    intro k
    have := ih k.tail
    simp only [Dsk.keepW, List.length_append, List.length_cons]
    split
    · simp only [List.length_cons, List.length_nil]; omega
    · simp only [List.length_nil]; omega
def Dsk.RM.crash (r : Dsk.RM) (k : List Bool) : Dsk.RM := { n := r.n, done := r.done ++ Dsk.keepW r.waits k, waits := [], fuel := -1, dead := false }

/-- Within the document's Crash: what was kept of the first writes is done. -/
structure RSweep (w wr : World) (d : Nat) (vd0 vd vw : Value) (r : Dsk.RM) (K : List (Nat × List Nat)) : Prop where
  is : RefIs wr d vd vw { r with done := r.done ++ K }
  only : Only (refFoot d vd0 vw) w wr
  foot : ∀ x ∈ refFoot d vd vw, x ∈ refFoot d vd0 vw ∨ w.heap.size ≤ x

theorem RSweep.start {w : World} {d : Nat} {vd vw : Value} {r : Dsk.RM} (h : RefIs w d vd vw r) : RSweep w w d vd vd vw r [] := ⟨by rw [List.append_nil]; exact h, Only.refl _ _, fun _ hx => .inl hx⟩
theorem RSweep.next {w wr w3 : World} {d g cap : Nat} {vd0 vd vw : Value} {r : Dsk.RM} {K : List (Nat × List Nat)} {p : Nat × List Nat} {o : Obj} (h : RSweep w wr d vd0 vd vw r K) (hp : ∀ x ∈ p.2, x < 256)
    (hown : w3.ownsRow 0 67 2 (.slice (some ⟨g, 0, none⟩) ((r.done ++ K).length + 1) cap) ((r.done ++ K).length + 1) (waitCells (r.done ++ K) ++ [.int .i64 (p.1 : Int), strV p.2]))
    (hg : (wr.alloc o).drew.grownBy w3 vd.ownBlock) (hat : vd.ownBlock = some g ∨ g = (wr.alloc o).drew.heap.size) :
    RSweep w (w3.setCell ⟨d, 1, none⟩ (.slice (some ⟨g, 0, none⟩) ((r.done ++ K).length + 1) cap)) d vd0 (.slice (some ⟨g, 0, none⟩) ((r.done ++ K).length + 1) cap) vw r (K ++ [p]) := by
  have hat' : (Value.slice (some ⟨g, 0, none⟩) ((r.done ++ K).length + 1) cap).ownBlock = vd.ownBlock ∨ (Value.slice (some ⟨g, 0, none⟩) ((r.done ++ K).length + 1) cap).ownBlock = some (wr.alloc o).drew.heap.size := by
    rcases hat with h1 | h1
    · exact .inl h1.symm
    · right
      rw [h1]
      rfl
  obtain ⟨f1, t1, t2⟩ := ((h.is.alloc o).drew).redone (more := [p]) hown (one_bytes hp) (((Only.refl _ wr).alloc o).drew) hg hat'
  refine ⟨by rw [← List.append_assoc]; exact f1, h.only.trans t1 h.foot, fun x hx => ?_⟩
  rcases t2 x hx with h1 | h1
  · exact h.foot x h1
  · right
    have := h.only.size
    omega
theorem RSweep.done {w wr : World} {d : Nat} {vd0 vd vw : Value} {r : Dsk.RM} {l : List Bool} (h : RSweep w wr d vd0 vd vw r (Dsk.keepW r.waits l)) :
    RTurned w d (refFoot d vd0 vw) (((wr.setCell ⟨d, 2, none⟩ (.slice none 0 0)).setCell ⟨d, 4, none⟩ (.bool false)).setCell ⟨d, 3, none⟩ (.int .i64 (-1))) (r.crash l) := by
  have f1 := h.is.clear_.1
  have f2 := f1.stored (r' := { r with done := r.done ++ Dsk.keepW r.waits l, waits := [], dead := false }) 4 (.bool false) rfl rfl rfl rfl h.is.f0 h.is.f1
  have f3 := f2.stored (r' := r.crash l) 3 (.int .i64 (-1)) rfl rfl rfl rfl (by show (-1 : Int) ≤ -1; omega) (by show (-1 : Int) ≤ _; omega)
  refine ⟨_, ⟨_, _, f3, rfl⟩, ((h.only.setCell (.inl (by simp [refFoot])) _).setCell (.inl (by simp [refFoot])) _).setCell (.inl (by simp [refFoot])) _, fun x hx => ?_⟩
  rcases mem_refFoot.1 hx with rfl | hx | hx
  · exact .inl (by simp [refFoot])
  · exact h.foot x (mem_refFoot.2 (.inr (.inl hx)))
  · cases hx

set_option maxRecDepth 100000 in
set_option maxHeartbeats 1000000 in
theorem rcrash_any (w : World) (d : Nat) (F : List Nat) (r : Dsk.RM) (A : Option Addr) (n c : Nat) (l : List Bool) (h : RefAt w d F r) (hl : Bls w A n l) (hA : 0 < n → ∀ x, A = some x → x.block ∉ F) (hn : r.done.length + r.waits.length ≤ 5800000000000) :
    Calls Try.prog 30 #[.pointer (some ⟨d, 0, none⟩), .slice A n c] w fun e w' => e = .returned (.tuple #[]) ∧ RTurned w d F w' (r.crash l) := by
  obtain ⟨vd, vw, h, rfl⟩ := h
  have SW := Lib.hid (RSweep.start h)
  obtain ⟨_, ⟨A1, c1, rfl⟩⟩ := h.form
  have HL := Lib.hid hl
  obtain ⟨i0, hi0, hz0, hz1, hz2⟩ := info_parts infoP
  have hA' := Lib.hid hA
  clear h hl hA
  go_enter Try.func30, Try.ntmps30
  go_wp2_with fail
  go_loopw [4] (fun i wr => ∃ (k : Nat) (v' : Value), k ≤ r.waits.length ∧ i = .int .i64 k ∧ RSweep w wr d vd v' (.slice A1 r.waits.length c1) r (Dsk.keepW (r.waits.take k) l)) (fun i _ => r.waits.length - (intOf i).toNat)
  case atStart => exact ⟨0, vd, by omega, rfl, SW.out⟩
  case round =>
    obtain ⟨k, v', hk, rfl, hS⟩ := hrel
    have HS := Lib.hid hS
    have c2 := hS.is.cells.2.2.1
    by_cases hlt : k < r.waits.length
    · obtain ⟨gw, cc, hv, _, hgl⟩ := hS.is.waits.form (show 0 < r.waits.length by omega)
      have hA1 : A1 = some ⟨gw, 0, none⟩ := by injection hv
      subst hA1
      obtain ⟨p, hp⟩ : ∃ p, r.waits[k]? = some p := ⟨_, List.getElem?_eq_getElem hlt⟩
      have hc := waitCells_at r.waits k p hp
      have p0 := (hS.is.waits.cellAt (k * 2) (show k * 2 < r.waits.length * 2 by omega)).trans hc.1
      have p1 : wr.cell? ⟨gw, k * 2 + 1, none⟩ = some (.string (strB p.2)) := (hS.is.waits.cellAt (k * 2 + 1) (show k * 2 + 1 < r.waits.length * 2 by omega)).trans hc.2
      have ht : r.waits.take (k + 1) = r.waits.take k ++ [p] := by
        rw [List.take_succ_eq_append_getElem hlt]
        rw [List.getElem?_eq_getElem hlt] at hp
        injection hp with hp
        rw [hp]
      have HP8 : Hid (∀ x ∈ p.2, x < 256) := hS.is.wb p (List.mem_of_getElem? hp)
      have HT := Lib.hid ht
      have HLN : Hid ((r.waits.take k).length = k) := by show _ = _; rw [List.length_take]; omega
      have HC := Lib.hid (Dsk.keepW_snoc (r.waits.take k) p l)
      have hKl := Dsk.keepW_length (r.waits.take k) l
      have c1' := hS.is.cells.2.1
      have f1' := hS.is.blk.frozen 1
      have dlt := hS.is.blk.lt
      have hi0' : (0 : Int) ≤ (k : Int) := by omega
      have hi1' : (k : Int) < (r.waits.length : Int) := by omega
      have LR := HS.out.only.bls HL.out hA'.out
      rw [HLN.out] at hKl
      clear hv hp hc ht hS
      by_cases hkn : k < n
      · obtain ⟨gb, ob, rfl, gbl, hbc⟩ := LR.2 (by omega)
        have hb := hbc k hkn
        have hkn0 : (k : Int) < (n : Int) := by omega
        clear hbc LR
        by_cases hkeep : l.getD k false = true
        · rw [hkeep] at hb
          have hkeep' := Lib.hid hkeep
          have K1 : Hid (∀ u ∈ ([.int .i64 (p.1 : Int), strV p.2] : List Value), u.oneCell' = true) := by intro u hu; simp only [List.mem_cons, List.not_mem_nil, or_false] at hu; rcases hu with rfl | rfl <;> rfl
          have K3 : Hid ((r.done ++ Dsk.keepW (r.waits.take k) l).length + 1 ≤ maxLen) := by show _ ≤ _; simp only [maxLen, List.length_append]; omega
          have K4 : Hid (((r.done ++ Dsk.keepW (r.waits.take k) l).length + 1) * 24 ≤ 140737488355328) := by show _ ≤ _; simp only [List.length_append]; omega
          clear hkeep
          go_wp2_with fail
          go_region_law (refine step_append_lies _ rfl (.tmp 28) (.tmp 36) 29 rfl 0 67 i0 (.agg #[.int .i64 0, .string ⟨#[]⟩]) 2 24 Try.underlying29 hi0 hz0 hz1 hz2 rfl ?q2 v' (r.done ++ Dsk.keepW (r.waits.take k) l).length (waitCells (r.done ++ Dsk.keepW (r.waits.take k) l)) ?q3 (ownsRow_drew (HS.out.is.done.alloc (.cells #[.int .i64 (p.1 : Int), strV p.2] 67))) ⟨wr.heap.size, 0, none⟩ 1 1 [.int .i64 (p.1 : Int), strV p.2] ?q5 rfl (news_drew (.int .i64 (p.1 : Int)) (strV p.2)) K1.out ?q9 K3.out K4.out (Nat.zero_le _) _ rfl ?_; (case q2 => decide); (case q3 => simp [Act.eval]); (case q5 => simp [Act.eval]); (case q9 => decide); intro g cap w3 hown hgrow hat hlt3; have g2 := (((HS.out.is.alloc _).keep1 hgrow)).cell 1; have g3 := (((HS.out.is.alloc _).keep1 hgrow)).frozen 1)
          all_goals
            have hN := HS.out.next HP8.out hown hgrow hat
            rw [List.length_append] at hN
            have HN := Lib.hid hN
            clear hN g2 g3 hown hgrow hat hlt3
            go_wp2_with fail
            go_roundw
            case rel => exact ⟨k + 1, _, by omega, by go_num, by rw [HT.out, HC.out, HLN.out, if_pos hkeep'.out]; exact HN.out⟩
            case measure => simp [intOf]; omega
        · have hkeep' : l.getD k false = false := by simpa using hkeep
          rw [hkeep'] at hb
          have HKE := Lib.hid hkeep
          clear hkeep hkeep'
          go_wp2_with fail
          go_roundw
          case rel => exact ⟨k + 1, v', by omega, by go_num, by rw [HT.out, HC.out, HLN.out, if_neg HKE.out, List.append_nil]; exact HS.out⟩
          case measure => simp [intOf]; omega
      · have hno : l.getD k false = false := by rw [List.getD_eq_getElem?_getD, List.getElem?_eq_none (by have := HL.out.1; omega)]; rfl
        have hkn0 : decide ((k : Int) < (n : Int)) = false := by simp; omega
        have hkn1 : decide (k < n) = false := by simp; omega
        have HNO := Lib.hid hno
        clear hno
        go_wp2_with fail
        go_roundw
        case rel => exact ⟨k + 1, v', by omega, by go_num, by rw [HT.out, HC.out, HLN.out, HNO.out, if_neg (by decide), List.append_nil]; exact HS.out⟩
        case measure => simp [intOf]; omega
    · obtain rfl : k = r.waits.length := by omega
      have e : List.take r.waits.length r.waits = r.waits := List.take_of_length_le (Nat.le_refl _)
      rw [e] at hS
      have FIN := Lib.hid hS.done
      have f2 := hS.is.blk.frozen 2
      have f3 := hS.is.blk.frozen 3
      have f4 := hS.is.blk.frozen 4
      have q3 := hS.is.cells.2.2.2.1
      have q4 := hS.is.cells.2.2.2.2
      clear hS e HS
      go_wp2_with fail
      go_end0
      exact ⟨rfl, FIN.out⟩
end Go.Proofs.Ytejpefiblodefaa
