/-
  The document's own disk (package docketref02) in memory, and the contracts of its calls.
-/
import Derived.Test.YtejpefiblodefaaDiskF
namespace Go.Proofs.Ytejpefiblodefaa
open Go.RowKit

/-- append(v, s...) of two rows: v of the call's own, s any owned row (nil, too). -/
theorem run_append_rows {P : Program} (w : World) (t ty : TypeId) (base base2 : Nat) (e : TypeId) (i : TypeInfo) (z : Value) (size bytes : Nat) (ht : P.underlying t = some (.slice e)) (hi : P.info? e = some i) (hz : i.zero = some z)
    (hsize : i.size = size) (hby : i.bytes = bytes) (hzs : z.cells.size = size) (hsz : 0 < size)
    (v : Value) (n : Nat) (xs : List Value) (hown : w.ownsRow base e size v n xs)
    (v2 : Value) (m : Nat) (ys : List Value) (hsrc : w.ownsRow base2 e size v2 m ys) (h1 : ∀ u ∈ ys, u.oneCell' = true)
    (h63 : n + m ≤ maxLen) (hbytes : (n + m) * bytes ≤ 140737488355328) (hbase : base ≤ w.heap.size) :
    ∃ v' w', (Builtin.append_ #[t, t] ty #[v, v2]).run P w = .ok v' w' ∧ w'.ownsRow base e size v' (n + m) (xs ++ ys) ∧ w.grownBy w' v.ownBlock ∧ (v'.ownBlock = v.ownBlock ∨ v'.ownBlock = some w.heap.size) := by
  rcases hsrc.2 with ⟨rfl, rfl⟩ | ⟨g2, cap2, cur2, rfl, _, _, _⟩
  · have hy : ys = [] := List.eq_nil_of_length_eq_zero (by simpa using hsrc.1)
    subst hy
    exact ⟨v, w, run_append_owned_none w base t ty e i size ht hi v n xs hown, by simpa using hown, World.grownBy.refl w _, .inl rfl⟩
  · obtain ⟨v', w', hr, h2, h3, _, h5⟩ := run_append_own_at (P := P) w base t ty e i z size bytes ht hi hz hsize hby hzs hsz v n xs hown ⟨g2, 0, none⟩ m cap2 ys hsrc.1 (hsrc.cells (g := g2) rfl) h1 h63 hbytes hbase
    exact ⟨v', w', hr, h2, h3, h5⟩

/-- The same at a step of a region that draws its order. -/
theorem step_append_rows {P : Program} (w : World) {ops : Array Oper} {o : Oper} {a : Act} {K : Act → World → Prop} {Q : Exit → Act → World → Prop} {E : Prop} (hgd : o.guard = none) (s x : Operand) (t : TypeId)
    (ho : o.op = .call { callee := .builtin .append, args := #[s, x], argTypes := #[t, t] })
    (base base2 : Nat) (e : TypeId) (i : TypeInfo) (z : Value) (size bytes : Nat) (ht : P.underlying t = some (.slice e)) (hi : P.info? e = some i) (hz : i.zero = some z)
    (hsize : i.size = size) (hby : i.bytes = bytes) (hzs : z.cells.size = size) (hsz : 0 < size)
    (v : Value) (n : Nat) (xs : List Value) (hs : a.eval s = v) (hown : w.ownsRow base e size v n xs)
    (v2 : Value) (m : Nat) (ys : List Value) (hx : a.eval x = v2) (hsrc : w.ownsRow base2 e size v2 m ys) (h1 : ∀ u ∈ ys, u.oneCell' = true)
    (h63 : n + m ≤ maxLen) (hbytes : (n + m) * bytes ≤ 140737488355328) (hbase : base ≤ w.heap.size)
    (h : ∀ v' w', w'.ownsRow base e size v' (n + m) (xs ++ ys) → w.grownBy w' v.ownBlock → (v'.ownBlock = v.ownBlock ∨ v'.ownBlock = some w.heap.size) → K (a.put o.dst v') w') :
    if Region.wanted o (yielded ops a.tmps) = true then Oper.wp P o a w K Q else E := by
  have hw : Region.wanted o (yielded ops a.tmps) = true := by simp [Region.wanted, hgd]
  rw [if_pos hw]
  obtain ⟨v', w', hr, h2, h3, h4⟩ := run_append_rows (P := P) w t o.type base base2 e i z size bytes ht hi hz hsize hby hzs hsz v n xs hown v2 m ys hsrc h1 h63 hbytes hbase
  unfold Oper.wp execOp
  simp only [ho, resolve, invoke, builtin, Sem.run_bind, Sem.run_pure, Result.andThen_ok, List.map_toArray, List.map_cons, List.map_nil, hs, hx, hr]
  exact h v' w' h2 h3 h4

theorem waitCells_one (w : List (Nat × List Nat)) : ∀ u ∈ waitCells w, u.oneCell' = true := by
  intro u hu
  simp only [waitCells, List.mem_flatMap] at hu
  obtain ⟨p, _, hp⟩ := hu
  simp only [List.mem_cons, List.not_mem_nil, or_false] at hp
  rcases hp with rfl | rfl <;> rfl
theorem waitCells_append (a b : List (Nat × List Nat)) : waitCells (a ++ b) = waitCells a ++ waitCells b := by simp [waitCells]

theorem own_form {w : World} {base : Nat} {e : TypeId} {size n : Nat} {v : Value} {xs : List Value} (h : w.ownsRow base e size v n xs) : ∃ A c, v = .slice A n c := by
  rcases h.2 with ⟨h1, h2⟩ | ⟨g, cap, cur, h1, _⟩
  · exact ⟨none, 0, by rw [h1, h2]⟩
  · exact ⟨_, cap, h1⟩

namespace Dsk
/-- The document's disk: how many sectors, what was done, what waits, the fuel, whether it is dead. -/
structure RM where
  n : Nat
  done : List (Nat × List Nat)
  waits : List (Nat × List Nat)
  fuel : Int
  dead : Bool
/-- What the last write of sector i in a list wrote, or what was there. -/
def lastW (l : List (Nat × List Nat)) (i : Nat) (was : List Nat) : List Nat := l.foldl (fun acc p => if p.1 = i then p.2 else acc) was
theorem lastW_snoc (l : List (Nat × List Nat)) (p : Nat × List Nat) (i : Nat) (was : List Nat) : lastW (l ++ [p]) i was = if p.1 = i then p.2 else lastW l i was := by simp [lastW]
theorem lastW_append (l k : List (Nat × List Nat)) (i : Nat) (was : List Nat) : lastW (l ++ k) i was = lastW k i (lastW l i was) := by simp [lastW]
theorem lastW_bytes {l : List (Nat × List Nat)} (h : ∀ p ∈ l, ∀ x ∈ p.2, x < 256) (i : Nat) : ∀ {was : List Nat}, (∀ x ∈ was, x < 256) → ∀ x ∈ lastW l i was, x < 256 := by
  induction l with
  | nil => intro was hw; exact hw
  | cons p r ih =>
    intro was hw
    simp only [lastW, List.foldl_cons]
    refine ih (fun q hq => h q (by simp [hq])) ?_
    split
    · exact h p (by simp)
    · exact hw
end Dsk

/-- The document's disk in block d. -/
structure RefIs (w : World) (d : Nat) (vd vw : Value) (r : Dsk.RM) : Prop where
  blk : Held w d 31 #[.int .i64 (r.n : Int), vd, vw, .int .i64 r.fuel, .bool r.dead]
  done : w.ownsRow 0 67 2 vd r.done.length (waitCells r.done)
  waits : w.ownsRow 0 67 2 vw r.waits.length (waitCells r.waits)
  ne : ∀ g, vd.ownBlock = some g → vw.ownBlock ≠ some g
  db : ∀ p ∈ r.done, ∀ x ∈ p.2, x < 256
  wb : ∀ p ∈ r.waits, ∀ x ∈ p.2, x < 256
  f0 : -1 ≤ r.fuel
  f1 : r.fuel ≤ 9223372036854775807
  nn : r.n ≤ 4096

def refFoot (d : Nat) (vd vw : Value) : List Nat := d :: (vd.ownBlock.toList ++ vw.ownBlock.toList)
theorem mem_refFoot {d x : Nat} {vd vw : Value} : x ∈ refFoot d vd vw ↔ x = d ∨ vd.ownBlock = some x ∨ vw.ownBlock = some x := by
  simp only [refFoot, List.mem_cons, List.mem_append, Option.mem_toList]
def RefAt (w : World) (d : Nat) (F : List Nat) (r : Dsk.RM) : Prop := ∃ vd vw, RefIs w d vd vw r ∧ F = refFoot d vd vw

section
variable {w w' : World} {d : Nat} {vd vw : Value} {r r' : Dsk.RM} {F G : List Nat}
theorem RefIs.ne_d (h : RefIs w d vd vw r) : vd.ownBlock ≠ some d ∧ vw.ownBlock ≠ some d := ⟨fun e => h.blk.ne_row h.done (by decide) d e rfl, fun e => h.blk.ne_row h.waits (by decide) d e rfl⟩
theorem RefIs.only (h : RefIs w d vd vw r) (k : Only G w w') (hG : ∀ x ∈ refFoot d vd vw, x ∉ G) : RefIs w' d vd vw r :=
  ⟨h.blk.only k (hG _ (by simp [refFoot])), k.row h.done (fun g hg => hG _ (mem_refFoot.2 (.inr (.inl hg)))), k.row h.waits (fun g hg => hG _ (mem_refFoot.2 (.inr (.inr hg)))), h.ne, h.db, h.wb, h.f0, h.f1, h.nn⟩
theorem RefIs.lt (h : RefIs w d vd vw r) : ∀ x ∈ refFoot d vd vw, x < w.heap.size := by
  intro x hx
  rcases mem_refFoot.1 hx with rfl | hx | hx
  · exact h.blk.lt
  · exact (h.done.lt _ hx).2
  · exact (h.waits.lt _ hx).2
theorem RefAt.only (h : RefAt w d F r) (k : Only G w w') (hG : ∀ x ∈ F, x ∉ G) : RefAt w' d F r := by
  obtain ⟨vd, vw, h, rfl⟩ := h
  exact ⟨vd, vw, h.only k hG, rfl⟩
theorem RefAt.lt (h : RefAt w d F r) : ∀ x ∈ F, x < w.heap.size := by
  obtain ⟨vd, vw, h, rfl⟩ := h
  exact h.lt
theorem RefAt.below (h : RefAt w d F r) (k : Below w.heap.size w w') : RefAt w' d F r := h.only (Only.of_below (F := []) k) (fun _ _ hx => by cases hx)
theorem RefIs.form (h : RefIs w d vd vw r) : (∃ A c, vd = .slice A r.done.length c) ∧ ∃ A c, vw = .slice A r.waits.length c := by
  refine ⟨?_, ?_⟩
  · rcases h.done.2 with ⟨h1, h2⟩ | ⟨g, cap, cur, h1, _⟩
    · exact ⟨none, 0, by rw [h1, h2]⟩
    · exact ⟨_, cap, h1⟩
  · rcases h.waits.2 with ⟨h1, h2⟩ | ⟨g, cap, cur, h1, _⟩
    · exact ⟨none, 0, by rw [h1, h2]⟩
    · exact ⟨_, cap, h1⟩
theorem RefIs.cells (h : RefIs w d vd vw r) : w.cell? ⟨d, 0, none⟩ = some (.int .i64 (r.n : Int)) ∧ w.cell? ⟨d, 1, none⟩ = some vd ∧ w.cell? ⟨d, 2, none⟩ = some vw ∧ w.cell? ⟨d, 3, none⟩ = some (.int .i64 r.fuel) ∧ w.cell? ⟨d, 4, none⟩ = some (.bool r.dead) :=
  ⟨h.blk.cell 0, h.blk.cell 1, h.blk.cell 2, h.blk.cell 3, h.blk.cell 4⟩
def RTurned (w : World) (d : Nat) (F : List Nat) (w' : World) (r' : Dsk.RM) : Prop := ∃ F', RefAt w' d F' r' ∧ Only F w w' ∧ ∀ x ∈ F', x ∈ F ∨ w.heap.size ≤ x
theorem RTurned.refl (h : RefAt w d F r) : RTurned w d F w r := ⟨F, h, Only.refl _ _, fun _ hx => .inl hx⟩
theorem RTurned.trans {w1 : World} {F1 : List Nat} (h : Only F w w1) (hF : ∀ x ∈ F1, x ∈ F ∨ w.heap.size ≤ x) (k : RTurned w1 d F1 w' r) : RTurned w d F w' r := by
  obtain ⟨F2, h1, h2, h3⟩ := k
  refine ⟨F2, h1, h.trans h2 hF, fun x hx => ?_⟩
  rcases h3 x hx with h4 | h4
  · exact hF x h4
  · right
    have := h.size
    omega
/-- A store into the disk's own block, at a field that is no slice. -/
theorem RefIs.stored (h : RefIs w d vd vw r) (i : Nat) (u : Value)
    (hb : (#[.int .i64 (r.n : Int), vd, vw, .int .i64 r.fuel, .bool r.dead] : Array Value).setIfInBounds i u = #[.int .i64 (r'.n : Int), vd, vw, .int .i64 r'.fuel, .bool r'.dead])
    (hd : r'.done = r.done) (hw : r'.waits = r.waits) (hn : r'.n = r.n) (f0 : -1 ≤ r'.fuel) (f1 : r'.fuel ≤ 9223372036854775807) : RefIs (w.setCell ⟨d, i, none⟩ u) d vd vw r' where
  blk := by rw [← hb]; exact h.blk.set_ i u
  done := by rw [hd]; exact ownsRow_far h.done (fun g hg e => h.ne_d.1 (hg.trans (by rw [e]))) u
  waits := by rw [hw]; exact ownsRow_far h.waits (fun g hg e => h.ne_d.2 (hg.trans (by rw [e]))) u
  ne := h.ne
  db := by rw [hd]; exact h.db
  wb := by rw [hw]; exact h.wb
  f0 := f0
  f1 := f1
  nn := by rw [hn]; exact h.nn
theorem ref_only {i : Nat} (u : Value) : Only (refFoot d vd vw) w (w.setCell ⟨d, i, none⟩ u) := (Only.refl _ w).setCell (.inl (by simp [refFoot])) u
end

/-- Using one of the fuel. -/
def Dsk.RM.uses (r : Dsk.RM) : Dsk.RM := if r.fuel = 0 then { r with dead := true } else if 0 < r.fuel then { r with fuel := r.fuel - 1 } else r

theorem uses_any (w : World) (d : Nat) (F : List Nat) (r : Dsk.RM) (h : RefAt w d F r) :
    Calls Try.prog 34 #[.pointer (some ⟨d, 0, none⟩)] w fun e w' => e = .returned (.int .i64 (if r.fuel = 0 then 10 else 0)) ∧ RTurned w d F w' r.uses := by
  obtain ⟨vd, vw, h, rfl⟩ := h
  have H := Lib.hid h
  have c3 := h.cells.2.2.2.1
  have c4 := h.cells.2.2.2.2
  have f3 := h.blk.frozen 3
  have f4 := h.blk.frozen 4
  have g0 := h.f0
  have g1 := h.f1
  clear h
  by_cases h0 : r.fuel = 0
  · have hm : r.uses = { r with dead := true } := by unfold Dsk.RM.uses; rw [if_pos h0]
    rw [hm, if_pos h0]
    have D := Lib.hid (H.out.stored (r' := { r with dead := true }) 4 (.bool true) rfl rfl rfl rfl H.out.f0 H.out.f1)
    have h0' : (r.fuel == 0) = true := by simpa using h0
    clear h0 hm
    go_enter Try.func34, Try.ntmps34
    go_wp2
    go_ret
    exact ⟨rfl, _, ⟨_, _, D.out, rfl⟩, ref_only _, fun _ hx => .inl hx⟩
  · have h0' : (r.fuel == 0) = false := by simpa using h0
    rw [if_neg h0]
    by_cases h1 : 0 < r.fuel
    · have hm : r.uses = { r with fuel := r.fuel - 1 } := by unfold Dsk.RM.uses; rw [if_neg h0, if_pos h1]
      rw [hm]
      have D := Lib.hid (H.out.stored (r' := { r with fuel := r.fuel - 1 }) 3 (.int .i64 (r.fuel - 1)) rfl rfl rfl rfl (by show -1 ≤ r.fuel - 1; omega) (by show r.fuel - 1 ≤ _; omega))
      clear h0 hm
      go_enter Try.func34, Try.ntmps34
      go_wp2
      go_ret
      exact ⟨rfl, _, ⟨_, _, D.out, rfl⟩, ref_only _, fun _ hx => .inl hx⟩
    · have hm : r.uses = r := by unfold Dsk.RM.uses; rw [if_neg h0, if_neg h1]
      rw [hm]
      have h1' : ¬ 0 < r.fuel := h1
      clear h0 hm h1
      go_enter Try.func34, Try.ntmps34
      go_wp2
      go_ret
      exact ⟨rfl, RTurned.refl ⟨_, _, H.out, rfl⟩⟩

theorem full_conv {w w1 : World} {g : Nat} {l : List Nat} (ho : OwnB w1 w.heap.size 5 (.slice (some ⟨g, 0, none⟩) 512 512) (l ++ (List.replicate 512 0).drop l.length)) (hs : l.length ≤ 512) :
    (convert 37 9 (.slice (some ⟨g, 0, none⟩) 512 512)).run Try.prog w1 = .ok (.string (strB (sec l))) w1 := by
  have e : l ++ (List.replicate 512 0).drop l.length = sec l := by rw [sec_short hs, List.drop_replicate]
  rw [e] at ho
  obtain ⟨g', cap, hv, _, _, hb, _⟩ := ho.form (by rw [sec_length]; omega)
  rw [sec_length] at hv hb
  rw [hv]
  exact hb.toStr byteT Try.underlying9 cap
theorem full_below {w w1 : World} {o : Obj} (hg : (w.alloc o).grownBy w1 (some w.heap.size)) : Below w.heap.size w w1 :=
  ((Below.refl _ _).alloc (Nat.le_refl _) _).grown hg (by simp) (fun k hk => by injection hk with hk; omega)
/-- A text, laid out over a sector. -/
theorem full_str (w : World) (l : List Nat) (hl : ∀ x ∈ l, x < 256) (hs : l.length ≤ 512) :
    Calls Try.prog 35 #[.string (strB l)] w fun e w' => e = .returned (.string (strB (sec l))) ∧ Below w.heap.size w w' := by
  have hl' := Lib.hid hl
  clear hl
  have hmk : ∀ u, (Instr.makeSlice 37 (.int .i64 512) (.int .i64 512)).run Try.prog u = .ok (.slice (some ⟨u.heap.size, 0, none⟩) 512 512) (u.alloc (.cells (madeCells #[.int .u8 0] 512) 5)) := fun u => run_make_bts byteT 512 (by omega) .i64 .i64 u
  have HZ := Lib.hid (own_zeros (e := 5) w 512 (by simp [maxLen]) w.heap.size rfl w.heap.size (Nat.le_refl _))
  go_enter Try.func35, Try.ntmps35
  go_wp2_with (refine wpList_copy_str byteT (o := ⟨some 7, _, _, _, _, _⟩) rfl (.tmp 5) (.tmp 6) 9 rfl rfl rfl HZ.out List.length_replicate hs hl'.out ?_; intro w1 ho hg; have hcv := full_conv ho hs; have HBL := full_below hg; clear ho hg)
  go_ret
  exact ⟨rfl, HBL⟩
end Go.Proofs.Ytejpefiblodefaa
