/-
  wire: Next, where a request is whole.
-/
import Derived.Test.YtnodhbgkoedalaaGreatDoorQP5
import Derived.Test.YtnodhbgkoedalaaGreatDoorQC1
namespace Go.Proofs.YtnodhbgkoedalaaGreatDoor
open Go.RowKit Reply

/-- What Next leaves in the connection's block. -/
def nextV (g off n cp : Nat) (close : Bool) : Value := if close then .slice none 0 0 else restV g off n cp
def fresh9 (w : World) (p : Nat) : World := ((((((((w.setCell ⟨p, 0, none⟩ (.int .i64 0)).setCell ⟨p, 1, none⟩ (.int .i64 0)).setCell ⟨p, 2, none⟩ (.int .i64 0)).setCell ⟨p, 3, none⟩ (.int .i64 0)).setCell ⟨p, 4, none⟩ (.string ⟨#[]⟩)).setCell ⟨p, 5, none⟩ (.string ⟨#[]⟩)).setCell ⟨p, 6, none⟩ (.slice none 0 0)).setCell ⟨p, 7, none⟩ (.string ⟨#[]⟩)).setCell ⟨p, 8, none⟩ (.bool false)
def fresh11 (w : World) (p : Nat) : World := ((fresh9 w p).setCell ⟨p, 9, none⟩ (.slice none 0 0)).setCell ⟨p, 10, none⟩ (.bool true)
theorem fresh9_only (w : World) (p : Nat) : Only [p] w (fresh9 w p) :=
  (((((((((Only.refl [p] w).setCell (p := ⟨p, 0, none⟩) (.inl (by simp)) _).setCell (p := ⟨p, 1, none⟩) (.inl (by simp)) _).setCell (p := ⟨p, 2, none⟩) (.inl (by simp)) _).setCell (p := ⟨p, 3, none⟩) (.inl (by simp)) _).setCell (p := ⟨p, 4, none⟩) (.inl (by simp)) _).setCell (p := ⟨p, 5, none⟩) (.inl (by simp)) _).setCell (p := ⟨p, 6, none⟩) (.inl (by simp)) _).setCell (p := ⟨p, 7, none⟩) (.inl (by simp)) _).setCell (p := ⟨p, 8, none⟩) (.inl (by simp)) _
theorem fresh11_only (w : World) (p : Nat) : Only [p] w (fresh11 w p) := ((fresh9_only w p).setCell (p := ⟨p, 9, none⟩) (.inl (by simp)) _).setCell (p := ⟨p, 10, none⟩) (.inl (by simp)) _
theorem fresh9_heldC {w : World} {p : Nat} {a0 a1 a2 a3 a4 a5 a6 a7 a8 v x : Value} (h : Held w p 46 #[a0, a1, a2, a3, a4, a5, a6, a7, a8, v, x]) : Held (fresh9 w p) p 46 #[.int .i64 0, .int .i64 0, .int .i64 0, .int .i64 0, .string ⟨#[]⟩, .string ⟨#[]⟩, .slice none 0 0, .string ⟨#[]⟩, .bool false, v, x] := by
  have h0 : Held (w.setCell ⟨p, 0, none⟩ (.int .i64 0)) p 46 #[.int .i64 0, a1, a2, a3, a4, a5, a6, a7, a8, v, x] := h.set_ 0 _
  have h1 : Held ((w.setCell ⟨p, 0, none⟩ (.int .i64 0)).setCell ⟨p, 1, none⟩ (.int .i64 0)) p 46 #[.int .i64 0, .int .i64 0, a2, a3, a4, a5, a6, a7, a8, v, x] := h0.set_ 1 _
  have h2 : Held (((w.setCell ⟨p, 0, none⟩ (.int .i64 0)).setCell ⟨p, 1, none⟩ (.int .i64 0)).setCell ⟨p, 2, none⟩ (.int .i64 0)) p 46 #[.int .i64 0, .int .i64 0, .int .i64 0, a3, a4, a5, a6, a7, a8, v, x] := h1.set_ 2 _
  have h3 : Held ((((w.setCell ⟨p, 0, none⟩ (.int .i64 0)).setCell ⟨p, 1, none⟩ (.int .i64 0)).setCell ⟨p, 2, none⟩ (.int .i64 0)).setCell ⟨p, 3, none⟩ (.int .i64 0)) p 46 #[.int .i64 0, .int .i64 0, .int .i64 0, .int .i64 0, a4, a5, a6, a7, a8, v, x] := h2.set_ 3 _
  have h4 : Held (((((w.setCell ⟨p, 0, none⟩ (.int .i64 0)).setCell ⟨p, 1, none⟩ (.int .i64 0)).setCell ⟨p, 2, none⟩ (.int .i64 0)).setCell ⟨p, 3, none⟩ (.int .i64 0)).setCell ⟨p, 4, none⟩ (.string ⟨#[]⟩)) p 46 #[.int .i64 0, .int .i64 0, .int .i64 0, .int .i64 0, .string ⟨#[]⟩, a5, a6, a7, a8, v, x] := h3.set_ 4 _
  have h5 : Held ((((((w.setCell ⟨p, 0, none⟩ (.int .i64 0)).setCell ⟨p, 1, none⟩ (.int .i64 0)).setCell ⟨p, 2, none⟩ (.int .i64 0)).setCell ⟨p, 3, none⟩ (.int .i64 0)).setCell ⟨p, 4, none⟩ (.string ⟨#[]⟩)).setCell ⟨p, 5, none⟩ (.string ⟨#[]⟩)) p 46 #[.int .i64 0, .int .i64 0, .int .i64 0, .int .i64 0, .string ⟨#[]⟩, .string ⟨#[]⟩, a6, a7, a8, v, x] := h4.set_ 5 _
  have h6 : Held (((((((w.setCell ⟨p, 0, none⟩ (.int .i64 0)).setCell ⟨p, 1, none⟩ (.int .i64 0)).setCell ⟨p, 2, none⟩ (.int .i64 0)).setCell ⟨p, 3, none⟩ (.int .i64 0)).setCell ⟨p, 4, none⟩ (.string ⟨#[]⟩)).setCell ⟨p, 5, none⟩ (.string ⟨#[]⟩)).setCell ⟨p, 6, none⟩ (.slice none 0 0)) p 46 #[.int .i64 0, .int .i64 0, .int .i64 0, .int .i64 0, .string ⟨#[]⟩, .string ⟨#[]⟩, .slice none 0 0, a7, a8, v, x] := h5.set_ 6 _
  have h7 : Held ((((((((w.setCell ⟨p, 0, none⟩ (.int .i64 0)).setCell ⟨p, 1, none⟩ (.int .i64 0)).setCell ⟨p, 2, none⟩ (.int .i64 0)).setCell ⟨p, 3, none⟩ (.int .i64 0)).setCell ⟨p, 4, none⟩ (.string ⟨#[]⟩)).setCell ⟨p, 5, none⟩ (.string ⟨#[]⟩)).setCell ⟨p, 6, none⟩ (.slice none 0 0)).setCell ⟨p, 7, none⟩ (.string ⟨#[]⟩)) p 46 #[.int .i64 0, .int .i64 0, .int .i64 0, .int .i64 0, .string ⟨#[]⟩, .string ⟨#[]⟩, .slice none 0 0, .string ⟨#[]⟩, a8, v, x] := h6.set_ 7 _
  have h8 : Held (((((((((w.setCell ⟨p, 0, none⟩ (.int .i64 0)).setCell ⟨p, 1, none⟩ (.int .i64 0)).setCell ⟨p, 2, none⟩ (.int .i64 0)).setCell ⟨p, 3, none⟩ (.int .i64 0)).setCell ⟨p, 4, none⟩ (.string ⟨#[]⟩)).setCell ⟨p, 5, none⟩ (.string ⟨#[]⟩)).setCell ⟨p, 6, none⟩ (.slice none 0 0)).setCell ⟨p, 7, none⟩ (.string ⟨#[]⟩)).setCell ⟨p, 8, none⟩ (.bool false)) p 46 #[.int .i64 0, .int .i64 0, .int .i64 0, .int .i64 0, .string ⟨#[]⟩, .string ⟨#[]⟩, .slice none 0 0, .string ⟨#[]⟩, .bool false, v, x] := h7.set_ 8 _
  exact h8
theorem fresh9_held {w : World} {p : Nat} {s : Wire.St} {A : Option Addr} {c : Nat} {v : Value} {x : Bool} (h : Held w p 46 (rdL s A c ++ [v, .bool x]).toArray) : Held (fresh9 w p) p 46 (connL v x).toArray := fresh9_heldC h
theorem fresh11_held {w : World} {p : Nat} {v : Value} {x : Bool} (h : Held w p 46 (connL v x).toArray) : Held (fresh11 w p) p 46 (connL (.slice none 0 0) true).toArray := by
  have h8 : Held (fresh9 w p) p 46 #[.int .i64 0, .int .i64 0, .int .i64 0, .int .i64 0, .string ⟨#[]⟩, .string ⟨#[]⟩, .slice none 0 0, .string ⟨#[]⟩, .bool false, v, .bool x] := fresh9_heldC h
  have h9 : Held ((fresh9 w p).setCell ⟨p, 9, none⟩ (.slice none 0 0)) p 46 #[.int .i64 0, .int .i64 0, .int .i64 0, .int .i64 0, .string ⟨#[]⟩, .string ⟨#[]⟩, .slice none 0 0, .string ⟨#[]⟩, .bool false, .slice none 0 0, .bool x] := h8.set_ 9 _
  have h10 : Held (((fresh9 w p).setCell ⟨p, 9, none⟩ (.slice none 0 0)).setCell ⟨p, 10, none⟩ (.bool true)) p 46 #[.int .i64 0, .int .i64 0, .int .i64 0, .int .i64 0, .string ⟨#[]⟩, .string ⟨#[]⟩, .slice none 0 0, .string ⟨#[]⟩, .bool false, .slice none 0 0, .bool true] := h9.set_ 10 _
  exact h10
set_option maxRecDepth 100000 in
set_option maxHeartbeats 16000000 in
theorem next_one {w0 w : World} {p g off cp : Nat} {l : Reply.B} (E : Env w0) (hp : w0.heap.size ≤ p) (bel : Below w0.heap.size w0 w) (h : CnAt w p (.slice (some ⟨g, off, none⟩) l.length cp) false) (hk : Bk w g off l) (hgp : g ≠ p) (hcp : l.length ≤ cp) (hl : l.length ≤ 134217728) {t : Nat} {s' : Wire.St} (hr : Wire.Runs Wire.reader Wire.s0 l t 0 s') :
    Calls Tryz.prog 14 #[.pointer (some ⟨p, 0, none⟩)] w fun e w' => (∃ A c2, e = .returned (.tuple #[.agg #[.string (S s'.q.method), .string (S s'.q.target), .slice A s'.q.headers.length c2, .string (S s'.q.body), .bool s'.q.close], .int .i64 0, .bool true]) ∧ HAt w' A s'.q.headers) ∧ Fr w.heap.size p w w' ∧ CnAt w' p (nextV g (off + t) (l.length - t) (cp - t) s'.q.close) s'.q.close := by
  obtain ⟨W1, hW1⟩ : ∃ x, x = w.alloc (.cells #[.string ⟨#[]⟩, .string ⟨#[]⟩, .slice none 0 0, .string ⟨#[]⟩, .bool false] 26) := ⟨_, rfl⟩
  have HW1 := Lib.hid hW1
  have A1 : Hid (Below w.heap.size w W1) := by show Below _ _ _; rw [hW1]; exact (Below.refl _ _).alloc (Nat.le_refl _) _
  have S1 : Hid (W1.heap.size = w.heap.size + 1) := by show _ = _; rw [hW1]; exact World.size_alloc _ _
  have R1 : Hid (Held W1 w.heap.size 26 #[.string ⟨#[]⟩, .string ⟨#[]⟩, .slice none 0 0, .string ⟨#[]⟩, .bool false]) := by show Held _ _ _ _; rw [hW1]; exact Held.new _ _ _ rfl
  have C1 : Hid (CnAt W1 p (.slice (some ⟨g, off, none⟩) l.length cp) false) := h.below A1.out h.lt
  have K1 : Hid (Bk W1 g off l) := hk.below A1.out
  have RD := Lib.hid (RdS.conn E hp (bel.trans (A1.out.mono bel.size)) C1.out)
  have CL := Lib.hid (closed_any W1 p _ _ C1.out)
  have PW : Hid (p < w.heap.size) := h.lt
  have GW : Hid (g < W1.heap.size) := K1.out.lt
  have tl : t ≤ l.length := hr.le
  have RU := Lib.hid (fun u (q : RdS w0 W1.heap.size u p 46 [.slice (some ⟨g, off, none⟩) l.length cp, .bool false] Wire.s0 none 0) (bk : Bk u g off l) => run_b_any q g off cp l bk GW.out hgp hcp hl Wire.ok0 (fun x hx => by cases hx) hr (fun s1 ok ft _ => closes_all s1 ok ft))
  obtain ⟨n, hn⟩ : ∃ n, n = l.length := ⟨_, rfl⟩
  have NC : Hid (n ≤ cp) := by show _ ≤ _; omega
  have TN : Hid (t ≤ n) := by show _ ≤ _; omega
  rw [← hn] at C1 RD RU
  rw [← hn]
  clear hW1 h E bel hp hk hcp hl hr tl hn
  go_enter Tryz.func14, Tryz.ntmps14
  go_wp2_with fail
  rw [← HW1.out]
  refine CL.out.mono ?_
  rintro e w' ⟨rfl, rfl⟩
  clear CL
  have c9 : W1.cell? ⟨p, 9, none⟩ = some (.slice (some ⟨g, off, none⟩) n cp) := C1.out.cell 9
  go_upto_region 3 with fail
  refine wp_region_noPanic ?_
  refine wp_region_held_drew (S := fun wx => wx.cell? ⟨p, 9, none⟩ = some (.slice (some ⟨g, off, none⟩) n cp)) (by kernel_rfl) c9 (fun hHeld => ?_)
  refine take_ (i := 0) (v := ?_) 12 rfl rfl (by kernel_rfl) (by kernel_rfl) (by kernel_rfl) (fun _ _ _ h => h) (Or.inl ⟨by rfl, ?_⟩) (by assumption) ?_
  rotate_left
  · (intro wS hSw; (try dsimp only at hSw); go_simp; try with_reducible rfl)
  simp only [Act.put, List.setIfInBounds_toArray, List.set_cons_zero, List.set_cons_succ]
  refine take_ (i := 1) (v := ?_) 13 rfl rfl (by kernel_rfl) (by kernel_rfl) (by kernel_rfl) (fun _ _ _ h => h) (Or.inl ⟨by rfl, ?_⟩) (by assumption) ?_
  rotate_left
  · (intro wS hSw; (try dsimp only at hSw); go_simp; try with_reducible rfl)
  simp only [Act.put, List.setIfInBounds_toArray, List.set_cons_zero, List.set_cons_succ]
  refine take_ (i := 2) (v := ?_) 14 rfl rfl (by kernel_rfl) (by kernel_rfl) (by kernel_rfl) (fun _ _ _ h => h) (Or.inl ⟨by rfl, ?_⟩) (by assumption) ?_
  rotate_left
  · (intro wS hSw; (try dsimp only at hSw); go_simp; try with_reducible rfl)
  simp only [Act.put, List.setIfInBounds_toArray, List.set_cons_zero, List.set_cons_succ]
  refine take_ (i := 3) (v := ?_) 15 rfl rfl (by kernel_rfl) (by kernel_rfl) (by kernel_rfl) (fun _ _ _ h => h) (Or.inl ⟨by rfl, ?_⟩) (by assumption) ?_
  rotate_left
  · (intro wS hSw; (try dsimp only at hSw); go_simp; try with_reducible rfl)
  simp only [Act.put, List.setIfInBounds_toArray, List.set_cons_zero, List.set_cons_succ]
  refine take_ (i := 4) (v := ?_) 16 rfl rfl (by kernel_rfl) (by kernel_rfl) (by kernel_rfl) (fun _ _ _ h => h) (Or.inl ⟨by rfl, ?_⟩) (by assumption) ?_
  rotate_left
  · (intro wS hSw; (try dsimp only at hSw); go_simp; try with_reducible rfl)
  simp only [Act.put, List.setIfInBounds_toArray, List.set_cons_zero, List.set_cons_succ]
  refine take_ (i := 5) (v := ?_) 17 rfl rfl (by kernel_rfl) (by kernel_rfl) (by kernel_rfl) (fun _ _ _ h => h) (Or.inl ⟨by rfl, ?_⟩) (by assumption) ?_
  rotate_left
  · (intro wS hSw; (try dsimp only at hSw); go_simp; try with_reducible rfl)
  simp only [Act.put, List.setIfInBounds_toArray, List.set_cons_zero, List.set_cons_succ]
  refine take_ (i := 6) (v := ?_) 18 rfl rfl (by kernel_rfl) (by kernel_rfl) (by kernel_rfl) (fun _ _ _ h => h) (Or.inl ⟨by rfl, ?_⟩) (by assumption) ?_
  rotate_left
  · (intro wS hSw; (try dsimp only at hSw); go_simp; try with_reducible rfl)
  simp only [Act.put, List.setIfInBounds_toArray, List.set_cons_zero, List.set_cons_succ]
  refine one_ (i := 7) _ (by kernel_rfl) rfl (fun K hK => ?_)
  go_simp
  refine (RU.out _ (RD.out.under ((Below.refl _ _).drew)) (K1.out.below ((Below.refl _ _).drew))).mono ?_
  rintro e w5 ⟨rfl, ⟨A5, k5, r5⟩, f5⟩
  dsimp only
  have F5 : Hid (Fr W1.heap.size p W1 w5) := (Fr.of_below (p := p) RD.out.sz ((Below.refl _ _).drew)).trans f5
  have RD5 := Lib.hid r5
  have c95 : w5.cell? ⟨p, 9, none⟩ = some (.slice (some ⟨g, off, none⟩) n cp) := RD5.out.cell 9
  clear f5 r5 RD RU
  refine hK.out _ _ c95 (fun hHeld => ?_)
  clear hK K
  refine take_ (i := 8) (v := ?_) 11 rfl rfl (by kernel_rfl) (by kernel_rfl) (by kernel_rfl) (fun _ _ _ h => h) (Or.inl ⟨by rfl, ?_⟩) (by assumption) ?_
  rotate_left
  · (intro wS hSw; (try dsimp only at hSw); go_simp; try with_reducible rfl)
  simp only [Act.put, List.setIfInBounds_toArray]
  refine take_ (i := 9) (v := ?_) 20 rfl rfl (by kernel_rfl) (by kernel_rfl) (by kernel_rfl) (fun _ _ _ h => h) (Or.inl ⟨by rfl, ?_⟩) (by assumption) ?_
  rotate_left
  · (intro wS hSw; (try dsimp only at hSw); go_simp; try with_reducible rfl)
  simp only [Act.put, List.setIfInBounds_toArray]
  refine take_ (i := 10) (v := ?_) 21 rfl rfl (by kernel_rfl) (by kernel_rfl) (by kernel_rfl) (fun _ _ _ h => h) (Or.inl ⟨by rfl, ?_⟩) (by assumption) ?_
  rotate_left
  · (intro wS hSw; (try dsimp only at hSw); go_simp; try with_reducible rfl)
  simp only [Act.put, List.setIfInBounds_toArray]
  refine take_ (i := 11) (v := ?_) 5 rfl rfl (by kernel_rfl) (by kernel_rfl) (by kernel_rfl) (fun _ _ _ h => h) (Or.inl ⟨by rfl, ?_⟩) (by assumption) ?_
  rotate_left
  · (intro wS hSw; (try dsimp only at hSw); go_simp; try with_reducible rfl)
  simp only [Act.put, List.setIfInBounds_toArray]
  refine take_ (i := 12) (v := ?_) 6 rfl rfl (by kernel_rfl) (by kernel_rfl) (by kernel_rfl) (fun _ _ _ h => h) (Or.inl ⟨by rfl, ?_⟩) (by assumption) ?_
  rotate_left
  · (intro wS hSw; (try dsimp only at hSw); go_simp; try with_reducible rfl)
  simp only [Act.put, List.setIfInBounds_toArray]
  refine wpAnyH_done (by kernel_rfl) ?_ _
  refine NoPanic.normal ?_
  clear c9 c95
  go_wp2_with fail
  refine (drop_any RD5.out t TN.out NC.out).mono ?_
  rintro e w6 ⟨rfl, r6, f6⟩
  have F6 := Lib.hid (F5.out.trans f6)
  have RD6 := Lib.hid r6
  have R6 : Hid (Held w6 w.heap.size 26 #[.string ⟨#[]⟩, .string ⟨#[]⟩, .slice none 0 0, .string ⟨#[]⟩, .bool false]) := (F6.out.block _ R1.out.lt (by have := PW.out; omega)).trans R1.out
  clear f6 F5 RD5 r6
  have c4 : w6.cell? ⟨p, 4, none⟩ = some (.string (S s'.q.method)) := RD6.out.cell 4
  have c5 : w6.cell? ⟨p, 5, none⟩ = some (.string (S s'.q.target)) := RD6.out.cell 5
  have c6 : w6.cell? ⟨p, 6, none⟩ = some (.slice A5 s'.q.headers.length _) := RD6.out.cell 6
  have c7 : w6.cell? ⟨p, 7, none⟩ = some (.string (S s'.q.body)) := RD6.out.cell 7
  have c8 : w6.cell? ⟨p, 8, none⟩ = some (.bool s'.q.close) := RD6.out.cell 8
  obtain ⟨qm, hqm⟩ : ∃ x, x = S s'.q.method := ⟨_, rfl⟩
  obtain ⟨qt, hqt⟩ : ∃ x, x = S s'.q.target := ⟨_, rfl⟩
  obtain ⟨qb, hqb⟩ : ∃ x, x = S s'.q.body := ⟨_, rfl⟩
  obtain ⟨qn, hqn⟩ : ∃ x, x = s'.q.headers.length := ⟨_, rfl⟩
  obtain ⟨qc, hqc⟩ : ∃ x, x = s'.q.close := ⟨_, rfl⟩
  obtain ⟨v6, hv6⟩ : ∃ x, x = restV g (off + t) (n - t) (cp - t) := ⟨_, rfl⟩
  rw [← hqm] at c4
  rw [← hqt] at c5
  rw [← hqn] at c6
  rw [← hqb] at c7
  rw [← hqc] at c8
  have QM := Lib.hid hqm
  have QT := Lib.hid hqt
  have QB := Lib.hid hqb
  have QN := Lib.hid hqn
  have QC := Lib.hid hqc
  have V6 := Lib.hid hv6
  clear hqm hqt hqb hqn hqc hv6
  obtain ⟨W7, hW7⟩ : ∃ x, x = w6.alloc (.cells #[.string qm, .string qt, .slice A5 qn k5, .string qb, .bool qc] 26) := ⟨_, rfl⟩
  have HW7 := Lib.hid hW7
  have P6 : Hid (p < w6.heap.size) := RD6.out.blk.lt
  have Q7 : Hid (Held W7 w6.heap.size 26 #[.string qm, .string qt, .slice A5 qn k5, .string qb, .bool qc]) := by show Held _ _ _ _; rw [hW7]; exact Held.new _ _ _ rfl
  have A7 : Hid (Below w6.heap.size w6 W7) := by show Below _ _ _; rw [hW7]; exact (Below.refl _ _).alloc (Nat.le_refl _) _
  have H7 : Hid (Held W7 p 46 (rdL s' A5 k5 ++ [v6, .bool false]).toArray) := by rw [V6.out]; exact RD6.out.blk.below A7.out P6.out
  have R7 : Hid (Held W7 w.heap.size 26 #[.string ⟨#[]⟩, .string ⟨#[]⟩, .slice none 0 0, .string ⟨#[]⟩, .bool false]) := R6.out.below A7.out R6.out.lt
  have r0 : ∀ i, W7.frozen? ⟨p, i, none⟩ = false := fun i => H7.out.frozen i
  have z0 := r0 0
  have z1 := r0 1
  have z2 := r0 2
  have z3 := r0 3
  have z4 := r0 4
  have z5 := r0 5
  have z6 := r0 6
  have z7 := r0 7
  have z8 := r0 8
  have x0 : W7.cell? ⟨p, 0, none⟩ = some (.int .i64 (s'.step : Int)) := H7.out.cell 0
  have x1 : W7.cell? ⟨p, 1, none⟩ = some (.int .i64 (s'.size : Int)) := H7.out.cell 1
  have x2 : W7.cell? ⟨p, 2, none⟩ = some (.int .i64 (s'.head : Int)) := H7.out.cell 2
  have x3 : W7.cell? ⟨p, 3, none⟩ = some (.int .i64 (s'.trailers : Int)) := H7.out.cell 3
  have x4 : W7.cell? ⟨p, 4, none⟩ = some (.string (S s'.q.method)) := H7.out.cell 4
  have x5 : W7.cell? ⟨p, 5, none⟩ = some (.string (S s'.q.target)) := H7.out.cell 5
  have x6 : W7.cell? ⟨p, 6, none⟩ = some (.slice A5 s'.q.headers.length k5) := H7.out.cell 6
  have x7 : W7.cell? ⟨p, 7, none⟩ = some (.string (S s'.q.body)) := H7.out.cell 7
  have x8 : W7.cell? ⟨p, 8, none⟩ = some (.bool s'.q.close) := H7.out.cell 8
  clear r0 hW7
  go_upto_region 8 with fail
  rw [← HW7.out]
  clear c4 c5 c6 c7 c8
  obtain ⟨b0, hb0⟩ : ∃ x, x = w.heap.size := ⟨_, rfl⟩
  obtain ⟨b7, hb7⟩ : ∃ x, x = w6.heap.size := ⟨_, rfl⟩
  have ROW := Lib.hid RD6.out.row
  have FAR : Hid (∀ x, A5 = some x → x.block ≠ p ∧ x.block ≠ b0) := fun x e => by
    subst e
    have hb : (Value.slice (some x) s'.q.headers.length k5).ownBlock = some x.block := by
      rcases ROW.out.2 with ⟨e, _⟩ | ⟨g, cap, cur, e, _⟩
      · cases e
      · injection e with e _ _
        injection e with e
        rw [e]
        rfl
    have h1 := RD6.out.far x.block hb
    have h2 := (ROW.out.lt x.block hb).1
    have h3 := S1.out
    exact ⟨by simpa using h1, by omega⟩
  have HH : Hid (HAt w6 A5 s'.q.headers) := by
    obtain ⟨A', c9, e, _, hA⟩ := ROW.out.any
    show HAt _ _ _
    injection e with e1 e2 e3
    rw [e1]
    exact hA
  have N7 : Hid (b7 ≠ p ∧ b0 ≠ p ∧ b0 ≠ b7) := by
    have h1 := P6.out
    have h2 := PW.out
    have h3 := R6.out.lt
    exact ⟨by omega, by omega, by omega⟩
  rw [← hb7] at Q7
  rw [← hb0] at R7
  have FW7 : Hid (Fr b0 p w W7) := by
    have f1 : Fr b0 p w W1 := Fr.of_below (by omega) A1.out
    have f2 : Fr b0 p W1 w6 := ⟨F6.out.os, F6.out.tape, F6.out.output, F6.out.size, fun k hk hn => F6.out.block k (by have := S1.out; omega) hn⟩
    have f3 : Fr b0 p w6 W7 := Fr.of_below (by have := R6.out.lt; omega) A7.out
    exact (f1.trans f2).trans f3
  have FIN : Hid (∀ V u : World, ∀ vF : Value, Only [p] W7 V → Held V p 46 (connL vF qc).toArray → u = put5 V b0 (.string qm) (.string qt) (.slice A5 qn k5) (.string qb) (.bool qc) → Held u b0 26 #[.string qm, .string qt, .slice A5 qn k5, .string qb, .bool qc] ∧ HAt u A5 s'.q.headers ∧ Fr b0 p w u ∧ CnAt u p vF qc) := fun V u vF hV hp e => by
    subst e
    have o := put5_only V b0 (.string qm) (.string qt) (.slice A5 qn k5) (.string qb) (.bool qc)
    have sV : W7.heap.size ≤ V.heap.size := hV.size
    have lt0 := R7.out.lt
    refine ⟨put5_held (R7.out.only hV (by simpa using N7.out.2.1)) _ _ _ _ _, ?_, ?_, ?_⟩
    · exact ((HH.out.below A7.out).only hV (fun x e => by simpa using (FAR.out x e).1)).only o (fun x e => by simpa using (FAR.out x e).2)
    · exact (FW7.out.trans ⟨hV.os, hV.tape, hV.output, hV.size, fun k hk hn => hV.block k (by omega) (by simpa using hn)⟩).trans ⟨o.os, o.tape, o.output, o.size, fun k hk hn => o.block k (by omega) (by simp; omega)⟩
    · exact hp.only o (by simpa using fun e => N7.out.2.1 e.symm)
  obtain ⟨W8, hW8⟩ : ∃ x, x = fresh9 W7 p := ⟨_, rfl⟩
  have HW8 : Hid (W8 = ((((((((W7.setCell ⟨p, 0, none⟩ (.int .i64 0)).setCell ⟨p, 1, none⟩ (.int .i64 0)).setCell ⟨p, 2, none⟩ (.int .i64 0)).setCell ⟨p, 3, none⟩ (.int .i64 0)).setCell ⟨p, 4, none⟩ (.string ⟨#[]⟩)).setCell ⟨p, 5, none⟩ (.string ⟨#[]⟩)).setCell ⟨p, 6, none⟩ (.slice none 0 0)).setCell ⟨p, 7, none⟩ (.string ⟨#[]⟩)).setCell ⟨p, 8, none⟩ (.bool false)) := hW8
  have O8 : Hid (Only [p] W7 W8) := by show Only _ _ _; rw [hW8]; exact fresh9_only _ _
  have H8 : Hid (Held W8 p 46 (connL v6 false).toArray) := by show Held _ _ _ _; rw [hW8]; exact fresh9_held H7.out
  clear hW8
  go_upto_region 9 with fail
  rw [← HW8.out, ← hb0, ← hb7]
  have HB0 := Lib.hid hb0
  have HB7 := Lib.hid hb7
  clear hb0 hb7 x0 x1 x2 x3 x4 x5 x6 x7 x8 z0 z1 z2 z3 z4 z5 z6 z7 z8
  have Q8 : Hid (Held W8 b7 26 #[.string qm, .string qt, .slice A5 qn k5, .string qb, .bool qc]) := Q7.out.only O8.out (by simpa using N7.out.1)
  have R8 : Hid (Held W8 b0 26 #[.string ⟨#[]⟩, .string ⟨#[]⟩, .slice none 0 0, .string ⟨#[]⟩, .bool false]) := R7.out.only O8.out (by simpa using N7.out.2.1)
  have k4 := Q8.out.cell 4
  cases qc with
  | false =>
    have k0 := Q8.out.cell 0
    have k1 := Q8.out.cell 1
    have k2 := Q8.out.cell 2
    have k3 := Q8.out.cell 3
    have x0 := R8.out.cell 0
    have x1 := R8.out.cell 1
    have x2 := R8.out.cell 2
    have x3 := R8.out.cell 3
    have x4 := R8.out.cell 4
    have y0 := R8.out.frozen 0
    have y1 := R8.out.frozen 1
    have y2 := R8.out.frozen 2
    have y3 := R8.out.frozen 3
    have y4 := R8.out.frozen 4
    go_wp2_with fail
    obtain ⟨fh, fa, ff, fc⟩ := FIN.out W8 _ v6 O8.out H8.out rfl
    exact bodyPost_ret (resC3 _ _ 2 3 4 26 _ _ _ _ Tryz.results14 rfl rfl rfl (load_req fh rfl)) rfl ⟨⟨A5, k5, by rw [QM.out, QT.out, QB.out, QN.out, ← QC.out]; rfl, fa⟩, by rw [← HB0.out]; exact ff, by rw [← QC.out]; unfold nextV; rw [if_neg (by simp), ← V6.out]; exact fc⟩
  | true =>
    obtain ⟨W9, hW9⟩ : ∃ x, x = fresh11 W8 p := ⟨_, rfl⟩
    have HW9 : Hid (W9 = ((((((((((W8.setCell ⟨p, 0, none⟩ (.int .i64 0)).setCell ⟨p, 1, none⟩ (.int .i64 0)).setCell ⟨p, 2, none⟩ (.int .i64 0)).setCell ⟨p, 3, none⟩ (.int .i64 0)).setCell ⟨p, 4, none⟩ (.string ⟨#[]⟩)).setCell ⟨p, 5, none⟩ (.string ⟨#[]⟩)).setCell ⟨p, 6, none⟩ (.slice none 0 0)).setCell ⟨p, 7, none⟩ (.string ⟨#[]⟩)).setCell ⟨p, 8, none⟩ (.bool false)).setCell ⟨p, 9, none⟩ (.slice none 0 0)).setCell ⟨p, 10, none⟩ (.bool true)) := hW9
    have O9 : Hid (Only [p] W7 W9) := by show Only _ _ _; rw [hW9]; exact O8.out.trans (fresh11_only _ _) (fun x hx => .inl hx)
    have H9 : Hid (Held W9 p 46 (connL (.slice none 0 0) true).toArray) := by show Held _ _ _ _; rw [hW9]; exact fresh11_held H8.out
    clear hW9
    have c0 : W8.cell? ⟨p, 0, none⟩ = some (.int .i64 0) := H8.out.cell 0
    have c1 : W8.cell? ⟨p, 1, none⟩ = some (.int .i64 0) := H8.out.cell 1
    have c2 : W8.cell? ⟨p, 2, none⟩ = some (.int .i64 0) := H8.out.cell 2
    have c3 : W8.cell? ⟨p, 3, none⟩ = some (.int .i64 0) := H8.out.cell 3
    have c4 : W8.cell? ⟨p, 4, none⟩ = some (.string ⟨#[]⟩) := H8.out.cell 4
    have c5 : W8.cell? ⟨p, 5, none⟩ = some (.string ⟨#[]⟩) := H8.out.cell 5
    have c6 : W8.cell? ⟨p, 6, none⟩ = some (.slice none 0 0) := H8.out.cell 6
    have c7 : W8.cell? ⟨p, 7, none⟩ = some (.string ⟨#[]⟩) := H8.out.cell 7
    have c8 : W8.cell? ⟨p, 8, none⟩ = some (.bool false) := H8.out.cell 8
    have c9 : W8.cell? ⟨p, 9, none⟩ = some v6 := H8.out.cell 9
    have c10 : W8.cell? ⟨p, 10, none⟩ = some (.bool false) := H8.out.cell 10
    have z0 := H8.out.frozen 0
    have z1 := H8.out.frozen 1
    have z2 := H8.out.frozen 2
    have z3 := H8.out.frozen 3
    have z4 := H8.out.frozen 4
    have z5 := H8.out.frozen 5
    have z6 := H8.out.frozen 6
    have z7 := H8.out.frozen 7
    have z8 := H8.out.frozen 8
    have z9 := H8.out.frozen 9
    have z10 := H8.out.frozen 10
    go_upto_region 11 with fail
    rw [← HW9.out]
    clear c0 c1 c2 c3 c4 c5 c6 c7 c8 c9 c10 z0 z1 z2 z3 z4 z5 z6 z7 z8 z9 z10 k4
    have Q9 : Hid (Held W9 b7 26 #[.string qm, .string qt, .slice A5 qn k5, .string qb, .bool true]) := Q7.out.only O9.out (by simpa using N7.out.1)
    have R9 : Hid (Held W9 b0 26 #[.string ⟨#[]⟩, .string ⟨#[]⟩, .slice none 0 0, .string ⟨#[]⟩, .bool false]) := R7.out.only O9.out (by simpa using N7.out.2.1)
    have k0 := Q9.out.cell 0
    have k1 := Q9.out.cell 1
    have k2 := Q9.out.cell 2
    have k3 := Q9.out.cell 3
    have k4 := Q9.out.cell 4
    have x0 := R9.out.cell 0
    have x1 := R9.out.cell 1
    have x2 := R9.out.cell 2
    have x3 := R9.out.cell 3
    have x4 := R9.out.cell 4
    have y0 := R9.out.frozen 0
    have y1 := R9.out.frozen 1
    have y2 := R9.out.frozen 2
    have y3 := R9.out.frozen 3
    have y4 := R9.out.frozen 4
    go_wp2_with fail
    obtain ⟨fh, fa, ff, fc⟩ := FIN.out W9 _ (.slice none 0 0) O9.out H9.out rfl
    exact bodyPost_ret (resC3 _ _ 2 3 4 26 _ _ _ _ Tryz.results14 rfl rfl rfl (load_req fh rfl)) rfl ⟨⟨A5, k5, by rw [QM.out, QT.out, QB.out, QN.out, ← QC.out]; rfl, fa⟩, by rw [← HB0.out]; exact ff, by rw [← QC.out]; unfold nextV; rw [if_pos rfl]; exact fc⟩
end Go.Proofs.YtnodhbgkoedalaaGreatDoor
