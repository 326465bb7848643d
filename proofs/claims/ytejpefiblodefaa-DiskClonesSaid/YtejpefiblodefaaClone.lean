/-
  slices.Clone at both its types, and a disk's Clone.
-/
import Derived.Test.YtejpefiblodefaaStep
import Derived.Test.YtejpefiblodefaaReg
namespace Go.Proofs.Ytejpefiblodefaa
open Go.RowKit

/-- append(v, s...) of two rows, at the head of a plain list of operations. -/
theorem wpList_append_rows {P : Program} {w : World} {ops : Array Oper} {rest : List Oper} {o : Oper} {a : Act} {Q : Exit → Act → World → Prop} (hgd : o.guard = none) (s x : Operand) (t : TypeId)
    (ho : o.op = .call { callee := .builtin .append, args := #[s, x], argTypes := #[t, t] })
    (base base2 : Nat) (e : TypeId) (i : TypeInfo) (z : Value) (size bytes : Nat) (ht : P.underlying t = some (.slice e)) (hi : P.info? e = some i) (hz : i.zero = some z)
    (hsize : i.size = size) (hby : i.bytes = bytes) (hzs : z.cells.size = size) (hsz : 0 < size)
    (v : Value) (n : Nat) (xs : List Value) (hs : a.eval s = v) (hown : w.ownsRow base e size v n xs)
    (v2 : Value) (m : Nat) (ys : List Value) (hx : a.eval x = v2) (hsrc : w.ownsRow base2 e size v2 m ys) (h1 : ∀ u ∈ ys, u.oneCell' = true)
    (h63 : n + m ≤ maxLen) (hbytes : (n + m) * bytes ≤ 140737488355328) (hbase : base ≤ w.heap.size)
    (h : ∀ v' w', w'.ownsRow base e size v' (n + m) (xs ++ ys) → w.grownBy w' v.ownBlock → (v'.ownBlock = v.ownBlock ∨ v'.ownBlock = some w.heap.size) → wpList P ops Q rest (a.put o.dst v') w') : wpList P ops Q (o :: rest) a w := by
  obtain ⟨v', w', hr, h2, h3, h4⟩ := run_append_rows (P := P) w t o.type base base2 e i z size bytes ht hi hz hsize hby hzs hsz v n xs hown v2 m ys hsrc h1 h63 hbytes hbase
  refine wpList_plain hgd fun _ hK => ?_
  unfold Oper.wp execOp
  simp only [ho, resolve, invoke, builtin, Sem.run_bind, Sem.run_pure, Result.andThen_ok, List.map_toArray, List.map_cons, List.map_nil, hs, hx, hr]
  exact hK _ _ (h v' w' h2 h3 h4)

theorem own_base {w : World} {base base' : Nat} {e : TypeId} {size n : Nat} {v : Value} {xs : List Value} (h : w.ownsRow base e size v n xs) (hb : base' ≤ base) : w.ownsRow base' e size v n xs := by
  refine ⟨h.1, ?_⟩
  rcases h.2 with h0 | ⟨g, cap, cur, hv, hg, r⟩
  · exact .inl h0
  · exact .inr ⟨g, cap, cur, hv, by omega, r⟩

/-- A row that has been cloned. -/
def Cloned (w : World) (E : TypeId) (size n : Nat) (xs : List Value) (e : Ending) (w' : World) : Prop := ∃ v', e = .returned v' ∧ w'.ownsRow w.heap.size E size v' n xs ∧ Below w.heap.size w w'

theorem empty_row (w : World) (e : TypeId) (size : Nat) : (w.alloc (.cells #[] e)).ownsRow w.heap.size e size (.slice (some ⟨w.heap.size, 0, none⟩) 0 0) 0 [] := by
  have h := World.ownsRow_lit (base := w.heap.size) (e := e) (size := size) w #[] 0 (Nat.le_refl _) (by simp [maxLen]) (by simp)
  exact h
theorem cloned_below {w w1 : World} {o : Obj} (hg : (w.alloc o).grownBy w1 (some w.heap.size)) : Below w.heap.size w w1 :=
  ((Below.refl _ _).alloc (Nat.le_refl _) _).grown hg (by simp) (fun k hk => by injection hk with hk; omega)

set_option maxHeartbeats 400000 in
theorem clone_strs (w : World) (v : Value) (n : Nat) (xs : List Value) (h : w.ownsRow 0 9 1 v n xs) (h1 : ∀ u ∈ xs, u.oneCell' = true) (hn : n ≤ 4096) (hp : 0 < n) :
    Calls Try.prog 37 #[v] w (Cloned w 9 1 n xs) := by
  obtain ⟨g, c, rfl, _⟩ := h.form hp
  have H := Lib.hid h
  have HE := Lib.hid (empty_row w 9 1)
  have H1 := Lib.hid h1
  obtain ⟨i0, hi0, hz0, hz1, hz2⟩ := info_parts infoS
  clear h h1
  have hnil : ∀ W, (binOp .eql 56 (.slice (some ⟨g, 0, none⟩) n c) (.slice none 0 0)).run Try.prog W = .ok (.bool false) W := fun W => run_eql_slice_nil W 56 9 (some ⟨g, 0, none⟩) n c Try.underlying56
  have k3 : 0 + n ≤ maxLen := by simp only [maxLen]; omega
  have k4 : (0 + n) * 16 ≤ 140737488355328 := by omega
  have K3 := Lib.hid k3
  have K4 := Lib.hid k4
  clear k3 k4
  go_enter Try.func37, Try.ntmps37
  go_wp2_with (at_builtin; refine wpList_append_rows rfl (.tmp 5) (.tmp 6) 56 rfl w.heap.size 0 9 i0 (.string ⟨#[]⟩) 1 16 Try.underlying56 hi0 hz0 hz1 hz2 rfl ?q2 (.slice (some ⟨w.heap.size, 0, none⟩) 0 0) 0 [] rfl HE.out (.slice (some ⟨g, 0, none⟩) n c) n xs rfl (H.out.alloc _) H1.out K3.out K4.out ?q9 ?_; (case q2 => decide); (case q9 => simp); intro v' w1 hown hgrow hat)
  rw [Nat.zero_add, List.nil_append] at hown
  have FIN := Lib.hid (show Cloned w 9 1 n xs (.returned v') w1 from ⟨v', rfl, hown, cloned_below hgrow⟩)
  clear hown hgrow hat
  go_ret
  exact FIN.out

set_option maxHeartbeats 400000 in
theorem clone_waits (w : World) (v : Value) (n : Nat) (xs : List Value) (h : w.ownsRow 0 64 2 v n xs) (h1 : ∀ u ∈ xs, u.oneCell' = true) (hn : n ≤ 5800000000000) :
    Calls Try.prog 38 #[v] w (Cloned w 64 2 n xs) := by
  rcases h.2 with ⟨rfl, rfl⟩ | ⟨g, c, cur, rfl, hrest⟩
  · have hx : xs = [] := List.eq_nil_of_length_eq_zero (by simpa using h.1)
    subst hx
    have FIN := Lib.hid (show Cloned w 64 2 0 [] (.returned (.slice none 0 0)) w from ⟨_, rfl, World.ownsRow_nil _ _ _ _, Below.refl _ _⟩)
    have hnil : ∀ W, (binOp .eql 57 (.slice none 0 0) (.slice none 0 0)).run Try.prog W = .ok (.bool true) W := fun W => run_eql_slice_nil W 57 64 none 0 0 Try.underlying57
    clear h h1
    go_enter Try.func38, Try.ntmps38
    go_wp2_with fail
    go_ret
    exact FIN.out
  · have H := Lib.hid h
    have HE := Lib.hid (empty_row w 64 2)
    have H1 := Lib.hid h1
    obtain ⟨i0, hi0, hz0, hz1, hz2⟩ := info_parts infoW
    clear h h1 hrest
    have hnil : ∀ W, (binOp .eql 57 (.slice (some ⟨g, 0, none⟩) n c) (.slice none 0 0)).run Try.prog W = .ok (.bool false) W := fun W => run_eql_slice_nil W 57 64 (some ⟨g, 0, none⟩) n c Try.underlying57
    have k3 : 0 + n ≤ maxLen := by simp only [maxLen]; omega
    have k4 : (0 + n) * 24 ≤ 140737488355328 := by omega
    have K3 := Lib.hid k3
    have K4 := Lib.hid k4
    clear k3 k4
    go_enter Try.func38, Try.ntmps38
    go_wp2_with (at_builtin; refine wpList_append_rows rfl (.tmp 5) (.tmp 6) 57 rfl w.heap.size 0 64 i0 (.agg #[.int .i64 0, .string ⟨#[]⟩]) 2 24 Try.underlying57 hi0 hz0 hz1 hz2 rfl ?q2 (.slice (some ⟨w.heap.size, 0, none⟩) 0 0) 0 [] rfl HE.out (.slice (some ⟨g, 0, none⟩) n c) n xs rfl (H.out.alloc _) H1.out K3.out K4.out ?q9 ?_; (case q2 => decide); (case q9 => simp); intro v' w1 hown hgrow hat)
    rw [Nat.zero_add, List.nil_append] at hown
    have FIN := Lib.hid (show Cloned w 64 2 n xs (.returned v') w1 from ⟨v', rfl, hown, cloned_below hgrow⟩)
    clear hown hgrow hat
    go_ret
    exact FIN.out

theorem strs_one (l : List (List Nat)) : ∀ u ∈ l.map strV, u.oneCell' = true := by
  intro u hu
  obtain ⟨x, _, rfl⟩ := List.mem_map.1 hu
  rfl

/-- The clone's block, laid. -/
theorem clone_done {w w1 w2 w3 : World} {n : Nat} {m : Dsk.DM} {va vb vc : Value} {o : Array Value} (hg : m.Good) (hn : n = m.dur.length) (ha : w1.ownsRow w.heap.size 9 1 va n (m.dur.map strV)) (ba : Below w.heap.size w w1)
    (hb : w2.ownsRow w1.heap.size 9 1 vb n (m.seen.map strV)) (bb : Below w1.heap.size w1 w2) (hc : w3.ownsRow w2.heap.size 64 2 vc m.wait.length (waitCells m.wait)) (bc : Below w2.heap.size w2 w3)
    (ho : o = #[va, vb, vc, .int .i64 m.fuel, .bool m.dead]) : NewDisk w m (.returned (.pointer (some ⟨w3.heap.size, 0, none⟩))) (w3.alloc (.cells o 59)) := by
  subst hn ho
  have h1 := hg.least
  obtain ⟨ga, ca, rfl, la, lta⟩ := ha.form (by omega)
  obtain ⟨gb, cb, rfl, lb, ltb⟩ := hb.form (by omega)
  have ha3 : w3.ownsRow 0 9 1 (.slice (some ⟨ga, 0, none⟩) m.dur.length ca) m.dur.length (m.dur.map strV) := (Only.of_below (F := []) bc).row ((Only.of_below (F := []) bb).row (own_base ha (Nat.zero_le _)) (fun _ _ hx => by cases hx)) (fun _ _ hx => by cases hx)
  have hb3 : w3.ownsRow 0 9 1 (.slice (some ⟨gb, 0, none⟩) m.dur.length cb) m.dur.length (m.seen.map strV) := (Only.of_below (F := []) bc).row (own_base hb (Nat.zero_le _)) (fun _ _ hx => by cases hx)
  have s1 := ba.size
  have s2 := bb.size
  have s3 := bc.size
  refine ⟨_, _, rfl, ⟨ga, ca, gb, cb, vc, ⟨Held.new _ _ _ rfl, ha3.alloc _, hb3.alloc _, (own_base hc (Nat.zero_le _)).alloc _, by omega, hg⟩, rfl⟩, ((ba.trans (bb.mono s1)).trans (bc.mono (by omega))).alloc (by omega) _, fun x hx => ?_⟩
  rcases mem_foot.1 hx with rfl | rfl | rfl | hx
  · omega
  · exact la
  · omega
  · have := (hc.lt x hx).1
    omega

set_option maxRecDepth 100000 in
set_option maxHeartbeats 1600000 in
theorem clone_any (w : World) (d : Nat) (F : List Nat) (m : Dsk.DM) (h : DiskAt w d F m) (hw : m.wait.length ≤ 5800000000000) :
    Calls Try.prog 21 #[.pointer (some ⟨d, 0, none⟩)] w (NewDisk w m) := by
  obtain ⟨gd, cd, gs, cs, vw, h, rfl⟩ := h
  have H := Lib.hid h
  obtain ⟨c0, c1, c2, c3, c4⟩ := h.cells
  have dlt := h.blk.lt
  have hmost := h.good.most
  have hleast := h.good.least
  obtain ⟨n, hn⟩ : ∃ n, n = m.dur.length := ⟨_, rfl⟩
  have HN := Lib.hid hn
  rw [← hn] at c0 c1 hmost hleast
  clear h hn
  go_enter Try.func21, Try.ntmps21
  go_wp2_with fail
  refine wp_region_noPanic ?_
  refine wp_region_held_drew (S := fun w' => w'.cell? ⟨d, 0, none⟩ = some (.slice (some ⟨gd, 0, none⟩) n cd) ∧ w'.cell? ⟨d, 1, none⟩ = some (.slice (some ⟨gs, 0, none⟩) n cs) ∧ w'.cell? ⟨d, 2, none⟩ = some vw ∧ w'.cell? ⟨d, 3, none⟩ = some (.int .i64 m.fuel) ∧ w'.cell? ⟨d, 4, none⟩ = some (.bool m.dead)) (by kernel_rfl) ⟨c0, c1, c2, c3, c4⟩ (fun hHeld => ?_)
  refine take_ (i := 0) (v := ?_) 5 rfl rfl (by kernel_rfl) (by kernel_rfl) (by kernel_rfl) (fun _ _ _ h => h) (Or.inl ⟨by rfl, ?_⟩) (by assumption) ?_
  rotate_left
  · (intro wS hSw; (try dsimp only at hSw); go_simp; try with_reducible rfl)
  simp only [Act.put, List.setIfInBounds_toArray, List.set_cons_zero, List.set_cons_succ]
  refine take_ (i := 1) (v := ?_) 6 rfl rfl (by kernel_rfl) (by kernel_rfl) (by kernel_rfl) (fun _ _ _ h => h) (Or.inl ⟨by rfl, ?_⟩) (by assumption) ?_
  rotate_left
  · (intro wS hSw; (try dsimp only at hSw); go_simp; try with_reducible rfl)
  simp only [Act.put, List.setIfInBounds_toArray, List.set_cons_zero, List.set_cons_succ]
  refine take_ (i := 2) (v := ?_) 7 rfl rfl (by kernel_rfl) (by kernel_rfl) (by kernel_rfl) (fun _ _ _ h => h) (Or.inl ⟨by rfl, ?_⟩) (by assumption) ?_
  rotate_left
  · (intro wS hSw; (try dsimp only at hSw); go_simp; try with_reducible rfl)
  simp only [Act.put, List.setIfInBounds_toArray, List.set_cons_zero, List.set_cons_succ]
  refine take_ (i := 3) (v := ?_) 8 rfl rfl (by kernel_rfl) (by kernel_rfl) (by kernel_rfl) (fun _ _ _ h => h) (Or.inl ⟨by rfl, ?_⟩) (by assumption) ?_
  rotate_left
  · (intro wS hSw; (try dsimp only at hSw); go_simp; try with_reducible rfl)
  simp only [Act.put, List.setIfInBounds_toArray, List.set_cons_zero, List.set_cons_succ]
  refine take_ (i := 5) (v := ?_) 10 rfl rfl (by kernel_rfl) (by kernel_rfl) (by kernel_rfl) (fun _ _ _ h => h) (Or.inl ⟨by rfl, ?_⟩) (by assumption) ?_
  rotate_left
  · (intro wS hSw; (try dsimp only at hSw); go_simp; try with_reducible rfl)
  simp only [Act.put, List.setIfInBounds_toArray, List.set_cons_zero, List.set_cons_succ]
  refine take_ (i := 6) (v := ?_) 11 rfl rfl (by kernel_rfl) (by kernel_rfl) (by kernel_rfl) (fun _ _ _ h => h) (Or.inl ⟨by rfl, ?_⟩) (by assumption) ?_
  rotate_left
  · (intro wS hSw; (try dsimp only at hSw); go_simp; try with_reducible rfl)
  simp only [Act.put, List.setIfInBounds_toArray, List.set_cons_zero, List.set_cons_succ]
  refine take_ (i := 7) (v := ?_) 12 rfl rfl (by kernel_rfl) (by kernel_rfl) (by kernel_rfl) (fun _ _ _ h => h) (Or.inl ⟨by rfl, ?_⟩) (by assumption) ?_
  rotate_left
  · (intro wS hSw; (try dsimp only at hSw); go_simp; try with_reducible rfl)
  simp only [Act.put, List.setIfInBounds_toArray, List.set_cons_zero, List.set_cons_succ]
  refine take_ (i := 8) (v := ?_) 13 rfl rfl (by kernel_rfl) (by kernel_rfl) (by kernel_rfl) (fun _ _ _ h => h) (Or.inl ⟨by rfl, ?_⟩) (by assumption) ?_
  rotate_left
  · (intro wS hSw; (try dsimp only at hSw); go_simp; try with_reducible rfl)
  simp only [Act.put, List.setIfInBounds_toArray, List.set_cons_zero, List.set_cons_succ]
  refine take_ (i := 10) (v := ?_) 15 rfl rfl (by kernel_rfl) (by kernel_rfl) (by kernel_rfl) (fun _ _ _ h => h) (Or.inl ⟨by rfl, ?_⟩) (by assumption) ?_
  rotate_left
  · (intro wS hSw; (try dsimp only at hSw); go_simp; try with_reducible rfl)
  simp only [Act.put, List.setIfInBounds_toArray, List.set_cons_zero, List.set_cons_succ]
  refine take_ (i := 11) (v := ?_) 16 rfl rfl (by kernel_rfl) (by kernel_rfl) (by kernel_rfl) (fun _ _ _ h => h) (Or.inl ⟨by rfl, ?_⟩) (by assumption) ?_
  rotate_left
  · (intro wS hSw; (try dsimp only at hSw); go_simp; try with_reducible rfl)
  simp only [Act.put, List.setIfInBounds_toArray, List.set_cons_zero, List.set_cons_succ]
  refine take_ (i := 12) (v := ?_) 17 rfl rfl (by kernel_rfl) (by kernel_rfl) (by kernel_rfl) (fun _ _ _ h => h) (Or.inl ⟨by rfl, ?_⟩) (by assumption) ?_
  rotate_left
  · (intro wS hSw; (try dsimp only at hSw); go_simp; try with_reducible rfl)
  simp only [Act.put, List.setIfInBounds_toArray, List.set_cons_zero, List.set_cons_succ]
  refine take_ (i := 13) (v := ?_) 18 rfl rfl (by kernel_rfl) (by kernel_rfl) (by kernel_rfl) (fun _ _ _ h => h) (Or.inl ⟨by rfl, ?_⟩) (by assumption) ?_
  rotate_left
  · (intro wS hSw; (try dsimp only at hSw); go_simp; try with_reducible rfl)
  simp only [Act.put, List.setIfInBounds_toArray, List.set_cons_zero, List.set_cons_succ]
  refine take_ (i := 15) (v := ?_) 20 rfl rfl (by kernel_rfl) (by kernel_rfl) (by kernel_rfl) (fun _ _ _ h => h) (Or.inl ⟨by rfl, ?_⟩) (by assumption) ?_
  rotate_left
  · (intro wS hSw; (try dsimp only at hSw); go_simp; try with_reducible rfl)
  simp only [Act.put, List.setIfInBounds_toArray, List.set_cons_zero, List.set_cons_succ]
  refine take_ (i := 16) (v := ?_) 21 rfl rfl (by kernel_rfl) (by kernel_rfl) (by kernel_rfl) (fun _ _ _ h => h) (Or.inl ⟨by rfl, ?_⟩) (by assumption) ?_
  rotate_left
  · (intro wS hSw; (try dsimp only at hSw); go_simp; try with_reducible rfl)
  simp only [Act.put, List.setIfInBounds_toArray, List.set_cons_zero, List.set_cons_succ]
  refine take_ (i := 17) (v := ?_) 22 rfl rfl (by kernel_rfl) (by kernel_rfl) (by kernel_rfl) (fun _ _ _ h => h) (Or.inl ⟨by rfl, ?_⟩) (by assumption) ?_
  rotate_left
  · (intro wS hSw; (try dsimp only at hSw); go_simp; try with_reducible rfl)
  simp only [Act.put, List.setIfInBounds_toArray, List.set_cons_zero, List.set_cons_succ]
  refine take_ (i := 18) (v := ?_) 23 rfl rfl (by kernel_rfl) (by kernel_rfl) (by kernel_rfl) (fun _ _ _ h => h) (Or.inl ⟨by rfl, ?_⟩) (by assumption) ?_
  rotate_left
  · (intro wS hSw; (try dsimp only at hSw); go_simp; try with_reducible rfl)
  simp only [Act.put, List.setIfInBounds_toArray, List.set_cons_zero, List.set_cons_succ]
  refine take_ (i := 19) (v := ?_) 24 rfl rfl (by kernel_rfl) (by kernel_rfl) (by kernel_rfl) (fun _ _ _ h => h) (Or.inl ⟨by rfl, ?_⟩) (by assumption) ?_
  rotate_left
  · (intro wS hSw; (try dsimp only at hSw); go_simp; try with_reducible rfl)
  simp only [Act.put, List.setIfInBounds_toArray, List.set_cons_zero, List.set_cons_succ]
  refine take_ (i := 20) (v := ?_) 25 rfl rfl (by kernel_rfl) (by kernel_rfl) (by kernel_rfl) (fun _ _ _ h => h) (Or.inl ⟨by rfl, ?_⟩) (by assumption) ?_
  rotate_left
  · (intro wS hSw; (try dsimp only at hSw); go_simp; try with_reducible rfl)
  simp only [Act.put, List.setIfInBounds_toArray, List.set_cons_zero, List.set_cons_succ]
  refine take_ (i := 21) (v := ?_) 26 rfl rfl (by kernel_rfl) (by kernel_rfl) (by kernel_rfl) (fun _ _ _ h => h) (Or.inl ⟨by rfl, ?_⟩) (by assumption) ?_
  rotate_left
  · (intro wS hSw; (try dsimp only at hSw); go_simp; try with_reducible rfl)
  simp only [Act.put, List.setIfInBounds_toArray, List.set_cons_zero, List.set_cons_succ]
  refine take_ (i := 22) (v := ?_) 27 rfl rfl (by kernel_rfl) (by kernel_rfl) (by kernel_rfl) (fun _ _ _ h => h) (Or.inl ⟨by rfl, ?_⟩) (by assumption) ?_
  rotate_left
  · (intro wS hSw; (try dsimp only at hSw); go_simp; try with_reducible rfl)
  simp only [Act.put, List.setIfInBounds_toArray, List.set_cons_zero, List.set_cons_succ]
  have C1 := Lib.hid (clone_strs w.drew (.slice (some ⟨gd, 0, none⟩) n cd) n (m.dur.map strV) (by rw [HN.out]; exact H.out.dur) (strs_one _) hmost (by omega))
  refine one_ (i := 4) _ (by kernel_rfl) rfl (fun K hK => ?_)
  go_simp
  refine C1.out.mono ?_
  rintro e w1 ⟨va, rfl, ha, ba⟩
  obtain ⟨_, _, rfl⟩ := own_form ha
  have B1 : Hid (Below w.heap.size w w1) := (Below.refl _ _).drew.trans ba
  have A1 := Lib.hid ha
  have S1 : w1.cell? ⟨d, 0, none⟩ = some (.slice (some ⟨gd, 0, none⟩) n cd) ∧ w1.cell? ⟨d, 1, none⟩ = some (.slice (some ⟨gs, 0, none⟩) n cs) ∧ w1.cell? ⟨d, 2, none⟩ = some vw ∧ w1.cell? ⟨d, 3, none⟩ = some (.int .i64 m.fuel) ∧ w1.cell? ⟨d, 4, none⟩ = some (.bool m.dead) :=
    ⟨(B1.out.cell (p := ⟨d, 0, none⟩) dlt).trans c0, (B1.out.cell (p := ⟨d, 1, none⟩) dlt).trans c1, (B1.out.cell (p := ⟨d, 2, none⟩) dlt).trans c2, (B1.out.cell (p := ⟨d, 3, none⟩) dlt).trans c3, (B1.out.cell (p := ⟨d, 4, none⟩) dlt).trans c4⟩
  have H1 := Lib.hid (H.out.only (Only.of_below (F := []) B1.out) (fun _ _ hx => by cases hx))
  clear ha ba C1
  go_wp2_with fail
  refine hK.out _ _ S1 (fun hHeld => ?_)
  clear hK K
  have C2 := Lib.hid (clone_strs w1 (.slice (some ⟨gs, 0, none⟩) n cs) n (m.seen.map strV) (by rw [HN.out]; exact H1.out.seen) (strs_one _) hmost (by omega))
  refine one_ (i := 9) _ (by kernel_rfl) rfl (fun K hK => ?_)
  go_simp
  refine C2.out.mono ?_
  rintro e w2 ⟨vb, rfl, hb, bb⟩
  obtain ⟨_, _, rfl⟩ := own_form hb
  have B2 := Lib.hid bb
  have A2 := Lib.hid hb
  have dlt1 : d < w1.heap.size := Nat.lt_of_lt_of_le dlt B1.out.size
  have S2 : w2.cell? ⟨d, 0, none⟩ = some (.slice (some ⟨gd, 0, none⟩) n cd) ∧ w2.cell? ⟨d, 1, none⟩ = some (.slice (some ⟨gs, 0, none⟩) n cs) ∧ w2.cell? ⟨d, 2, none⟩ = some vw ∧ w2.cell? ⟨d, 3, none⟩ = some (.int .i64 m.fuel) ∧ w2.cell? ⟨d, 4, none⟩ = some (.bool m.dead) :=
    ⟨(B2.out.cell (p := ⟨d, 0, none⟩) dlt1).trans S1.1, (B2.out.cell (p := ⟨d, 1, none⟩) dlt1).trans S1.2.1, (B2.out.cell (p := ⟨d, 2, none⟩) dlt1).trans S1.2.2.1, (B2.out.cell (p := ⟨d, 3, none⟩) dlt1).trans S1.2.2.2.1, (B2.out.cell (p := ⟨d, 4, none⟩) dlt1).trans S1.2.2.2.2⟩
  have H2 := Lib.hid (H1.out.only (Only.of_below (F := []) B2.out) (fun _ _ hx => by cases hx))
  clear hb bb C2
  go_wp2_with fail
  refine hK.out _ _ S2 (fun hHeld => ?_)
  clear hK K
  have C3 := Lib.hid (clone_waits w2 vw m.wait.length (waitCells m.wait) H2.out.wait (waitCells_one _) hw)
  refine one_ (i := 14) _ (by kernel_rfl) rfl (fun K hK => ?_)
  go_simp
  refine C3.out.mono ?_
  rintro e w3 ⟨vc, rfl, hc, bc⟩
  obtain ⟨_, _, rfl⟩ := own_form hc
  have B3 := Lib.hid bc
  have A3 := Lib.hid hc
  have dlt2 : d < w2.heap.size := Nat.lt_of_lt_of_le dlt1 B2.out.size
  have S3 : w3.cell? ⟨d, 0, none⟩ = some (.slice (some ⟨gd, 0, none⟩) n cd) ∧ w3.cell? ⟨d, 1, none⟩ = some (.slice (some ⟨gs, 0, none⟩) n cs) ∧ w3.cell? ⟨d, 2, none⟩ = some vw ∧ w3.cell? ⟨d, 3, none⟩ = some (.int .i64 m.fuel) ∧ w3.cell? ⟨d, 4, none⟩ = some (.bool m.dead) :=
    ⟨(B3.out.cell (p := ⟨d, 0, none⟩) dlt2).trans S2.1, (B3.out.cell (p := ⟨d, 1, none⟩) dlt2).trans S2.2.1, (B3.out.cell (p := ⟨d, 2, none⟩) dlt2).trans S2.2.2.1, (B3.out.cell (p := ⟨d, 3, none⟩) dlt2).trans S2.2.2.2.1, (B3.out.cell (p := ⟨d, 4, none⟩) dlt2).trans S2.2.2.2.2⟩
  have dlt3 : d < w3.heap.size := Nat.lt_of_lt_of_le dlt2 B3.out.size
  have FIN : Hid (∀ o : Array Value, o = #[_, _, _, .int .i64 m.fuel, .bool m.dead] → NewDisk w m (.returned (.pointer (some ⟨w3.heap.size, 0, none⟩))) (w3.alloc (.cells o 59))) := fun o ho => clone_done H.out.good HN.out A1.out B1.out A2.out B2.out A3.out B3.out ho
  clear hc bc C3
  go_wp2_with fail
  refine hK.out _ _ S3 (fun hHeld => ?_)
  clear hK K
  refine take_ (i := 23) (v := ?_) 28 rfl rfl (by kernel_rfl) (by kernel_rfl) (by kernel_rfl) (fun _ _ _ h => h) (Or.inl ⟨by rfl, ?_⟩) (by assumption) ?_
  rotate_left
  · (intro wS hSw; (try dsimp only at hSw); go_simp; try with_reducible rfl)
  simp only [Act.put, List.setIfInBounds_toArray, List.set_cons_zero, List.set_cons_succ]
  refine one_ (i := 24) _ (by kernel_rfl) rfl (fun K hK => ?_)
  go_simp
  refine hK.out _ _ ⟨by simpa [World.cell?_alloc_past, dlt3] using S3.1, by simpa [World.cell?_alloc_past, dlt3] using S3.2.1, by simpa [World.cell?_alloc_past, dlt3] using S3.2.2.1, by simpa [World.cell?_alloc_past, dlt3] using S3.2.2.2.1, by simpa [World.cell?_alloc_past, dlt3] using S3.2.2.2.2⟩ (fun hHeld => ?_)
  clear hK K
  refine take_ (i := 25) (v := ?_) 2 rfl rfl (by kernel_rfl) (by kernel_rfl) (by kernel_rfl) (fun _ _ _ h => h) (Or.inl ⟨by rfl, ?_⟩) (by assumption) ?_
  rotate_left
  · (intro wS hSw; (try dsimp only at hSw); go_simp; try with_reducible rfl)
  simp only [Act.put, List.setIfInBounds_toArray, List.set_cons_zero, List.set_cons_succ]
  refine wpAnyH_done (by kernel_rfl) ?_ _
  refine NoPanic.normal ?_
  go_wp2_with fail
  go_ret
  exact FIN.out _ rfl
end Go.Proofs.Ytejpefiblodefaa
