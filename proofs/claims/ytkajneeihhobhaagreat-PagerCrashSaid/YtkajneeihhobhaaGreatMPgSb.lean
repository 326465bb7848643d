/-
  pager beside the document's: both, and a step of a law's script on both. · pager beside the document's: a Read on both, as a law's script does it.
-/
import Derived.Test.YtkajneeihhobhaaGreatMPgS
namespace Go.Proofs.YtkajneeihhobhaaGreat
open Go.RowKit Go.Maps Wal Pgr

structure Duo (w0 w : World) (cm : Bool) (p d reg N t tm r t2 : Nat) (g : Com) (C : List Com) (L : List (Nat × List Nat)) (Ls : List (List (Nat × List Nat))) (P : PS) (v vL : Value) (vs : List Value) (K K2 : List Nat) : Prop where
  po : POpen w0 w cm p d reg N t tm g C P
  rb : RBase w0 w r N (reg - 1) Ls v vs K
  rt : RTran w0 w r t2 L vL K2
  far : ∀ x, x ∈ K ∨ x ∈ K2 → x ∉ pfoot t tm P
  sim : Sim4 N g L
  sims : Sims N C Ls
section
variable {w0 w w' : World} {cm : Bool} {p d reg N t tm r t2 : Nat} {g g' : Com} {C : List Com} {L L' : List (Nat × List Nat)} {Ls : List (List (Nat × List Nat))} {P : PS} {v vL vL' : Value} {vs : List Value} {K K2 K' H : List Nat}
theorem Duo.under (h : Duo w0 w cm p d reg N t tm r t2 g C L Ls P v vL vs K K2) (k : Below w.heap.size w w') : Duo w0 w' cm p d reg N t tm r t2 g C L Ls P v vL vs K K2 :=
  ⟨h.po.under k, h.rb.under k, h.rt.under k, h.far, h.sim, h.sims⟩
theorem Duo.few (h : Duo w0 w cm p d reg N t tm r t2 g C L Ls P v vL vs K K2) : L.length ≤ 4096 ∧ N ≤ 4096 := by
  have h1 := h.sim.len
  have h2 := dirt_le N g
  have h3 := h.po.ps.pag.most
  have h4 := h.po.ps.ids.2.2.2
  omega
/-- The pager's side has turned. -/
theorem Duo.left (h : Duo w0 w cm p d reg N t tm r t2 g C L Ls P v vL vs K K2) (k : POpen w0 w' cm p d reg N t tm g' C P) (ho : Only H w w') (hH : ∀ x ∈ H, x ∈ pfoot t tm P) : POpen w0 w' cm p d reg N t tm g' C P ∧ RBase w0 w' r N (reg - 1) Ls v vs K ∧ RTran w0 w' r t2 L vL K2 :=
  ⟨k, h.rb.only ho (fun x hx hm => h.far x (.inl hx) (hH x hm)), h.rt.only ho (fun x hx hm => h.far x (.inr hx) (hH x hm))⟩
theorem Duo.t2_far (h : Duo w0 w cm p d reg N t tm r t2 g C L Ls P v vL vs K K2) : t2 ∉ pfoot t tm P ∧ w0.heap.size ≤ t2 := ⟨h.far t2 (.inr ((h.rt.foot t2).2 (.inl rfl))), h.rt.new⟩
end
def dfoot (t tm : Nat) (P : PS) (K K2 : List Nat) : List Nat := pfoot t tm P ++ (K ++ K2)
theorem mem_dfoot {t tm : Nat} {P : PS} {K K2 : List Nat} {x : Nat} : x ∈ dfoot t tm P K K2 ↔ x ∈ pfoot t tm P ∨ x ∈ K ∨ x ∈ K2 := by simp [dfoot]
def StepRes (w0 w : World) (cm : Bool) (p d reg N t tm r t2 : Nat) (C : List Com) (Ls : List (List (Nat × List Nat))) (P : PS) (v : Value) (vs : List Value) (K K2 : List Nat) (e : Ending) (w' : World) : Prop :=
  ∃ g' L' vL' K2', e = .returned (.bool true) ∧ Duo w0 w' cm p d reg N t tm r t2 g' C L' Ls P v vL' vs K K2' ∧ Grows w w' (dfoot t tm P K K2) (dfoot t tm P K K2')
set_option maxRecDepth 100000 in
set_option maxHeartbeats 6400000 in
theorem step_write (w0 w : World) (cm : Bool) (p d reg N t tm r t2 : Nat) (g : Com) (C : List Com) (L : List (Nat × List Nat)) (Ls : List (List (Nat × List Nat))) (P : PS) (v vL : Value) (vs : List Value) (KR K2 : List Nat) (kd : Nat) (z : Int) (s : ByteArray) (h : Duo w0 w cm p d reg N t tm r t2 g C L Ls P v vL vs KR K2) (hk : (kd : Int) % 6 = 0) (hk8 : kd < 256) :
    Calls Tryz.prog 15 #[.pointer (some ⟨t, 0, none⟩), .pointer (some ⟨t2, 0, none⟩), .agg #[.int .u8 (kd : Int), .int .i64 z, .string s]] w (StepRes w0 w cm p d reg N t tm r t2 C Ls P v vs KR K2) := by
  have kc' := fun W s => Lib.run_convert_string_bytes (P := Tryz.prog) W 9 56 5 s Tryz.underlying9 Tryz.underlying56 Tryz.underlying5
  have H := Lib.hid h
  have FW := Lib.hid h.few
  have hLT := h.po.lt
  have hpl : p < w.heap.size := (hLT p (mem_pfoot.2 (.inr (.inr h.po.ps.pin)))).2
  have html : tm < w.heap.size := (hLT tm (mem_pfoot.2 (.inr (.inl rfl)))).2
  have ht2l : t2 < w.heap.size := h.rt.tx.lt
  have w0l : w0.heap.size ≤ w.heap.size := h.po.ps.below.size
  have ob := Held.new w 45 #[.int .u8 (kd : Int), .int .i64 z, .string s] rfl
  have zb : (w.alloc (.cells #[.int .u8 (kd : Int), .int .i64 z, .string s] 45)).heap.size = w.heap.size + 1 := World.size_alloc ..
  have bw : Below w.heap.size w (Lib.bytesWorld (w.alloc (.cells #[.int .u8 (kd : Int), .int .i64 z, .string s] 45)).drew 5 s) := (((Below.refl _ _).alloc (Nat.le_refl _) _).drew).trans (below_bytesWorld (B := w.heap.size) _ 5 s (by show w.heap.size ≤ (w.alloc (.cells #[.int .u8 (kd : Int), .int .i64 z, .string s] 45)).heap.size; omega))
  have hx1 : Below (w.heap.size + 1) (w.alloc (.cells #[.int .u8 (kd : Int), .int .i64 z, .string s] 45)).drew (Lib.bytesWorld (w.alloc (.cells #[.int .u8 (kd : Int), .int .i64 z, .string s] 45)).drew 5 s) := below_bytesWorld _ 5 s (by show w.heap.size + 1 ≤ (w.alloc (.cells #[.int .u8 (kd : Int), .int .i64 z, .string s] 45)).heap.size; rw [zb]; exact Nat.le_refl _)
  have OC : Hid (Held (Lib.bytesWorld (w.alloc (.cells #[.int .u8 (kd : Int), .int .i64 z, .string s] 45)).drew 5 s) w.heap.size 45 #[.int .u8 (kd : Int), .int .i64 z, .string s]) := Held.below (w := (w.alloc (.cells #[.int .u8 (kd : Int), .int .i64 z, .string s] 45)).drew) ob hx1 (Nat.lt_succ_self _)
  have D1 := Lib.hid (h.under bw)
  have SW := (s_write w0 _ cm p d reg N t tm g C P z (some ⟨w.heap.size + 1, 0, none⟩) s.size (grownCap (w.alloc (.cells #[.int .u8 (kd : Int), .int .i64 z, .string s] 45)).drew s.size 0 5) (nums s) D1.out.po (bts_bytesWorld _ _ _ (by show w.heap.size + 1 = (w.alloc (.cells #[.int .u8 (kd : Int), .int .i64 z, .string s] 45)).heap.size; omega)) (fun _ x hx => by injection hx with hx; rw [← hx]; exact ⟨by show w.heap.size + 1 ≠ p; omega, by show w.heap.size + 1 ≠ tm; omega⟩))
  have QN : Hid (w.heap.size ≠ p ∧ w.heap.size ≠ tm ∧ w.heap.size ≠ t2) := ⟨by omega, by omega, by omega⟩
  have W0 : Hid (w0.heap.size ≤ w.heap.size) := w0l
  have BW : Hid (Below w.heap.size w (Lib.bytesWorld (w.alloc (.cells #[.int .u8 (kd : Int), .int .i64 z, .string s] 45)).drew 5 s)) := bw
  have x1 : (w.alloc (.cells #[.int .u8 (kd : Int), .int .i64 z, .string s] 45)).cell? ⟨w.heap.size, 1, none⟩ = some (.int .i64 z) := ob.cell 1
  have x2 : (w.alloc (.cells #[.int .u8 (kd : Int), .int .i64 z, .string s] 45)).cell? ⟨w.heap.size, 2, none⟩ = some (.string s) := ob.cell 2
  have y1 : (Lib.bytesWorld (w.alloc (.cells #[.int .u8 (kd : Int), .int .i64 z, .string s] 45)).drew 5 s).cell? ⟨w.heap.size, 1, none⟩ = some (.int .i64 z) := OC.out.cell 1
  have y2 : (Lib.bytesWorld (w.alloc (.cells #[.int .u8 (kd : Int), .int .i64 z, .string s] 45)).drew 5 s).cell? ⟨w.heap.size, 2, none⟩ = some (.string s) := OC.out.cell 2
  have kb : (kd : Int) < 256 := by omega
  have kb0 : (0 : Int) ≤ (kd : Int) := by omega
  have SI : Hid (∀ (vL' : Value) (K' : List Nat) (w6 : World), POpen w0 w6 cm p d reg N t tm (if (0 ≤ z ∧ z < (N : Int)) ∧ s.size ≤ 512 then upd g z.toNat (sec (nums s)) else g) C P → RBase w0 w6 r N (reg - 1) Ls v vs KR → RTran w0 w6 r t2 (if wgood N z s then dropB L z ++ [(z.toNat, sec (nums s))] else L) vL' K' → (∀ x ∈ K', x ∈ K2 ∨ (∃ w5 : World, w5.heap.size ≤ x ∧ ∀ y ∈ pfoot t tm P, w0.heap.size ≤ y ∧ y < w5.heap.size)) → Duo w0 w6 cm p d reg N t tm r t2 (if (0 ≤ z ∧ z < (N : Int)) ∧ s.size ≤ 512 then upd g z.toNat (sec (nums s)) else g) C (if wgood N z s then dropB L z ++ [(z.toNat, sec (nums s))] else L) Ls P v vL' vs KR K') := by
    intro vL' K' w6 h1 h2 h3 h4
    refine ⟨h1, h2, h3, fun x hx => ?_, ?_, h.sims⟩
    · rcases hx with hx | hx
      · exact h.far x (.inl hx)
      · rcases h4 x hx with h5 | ⟨w5, h5, h6⟩
        · exact h.far x (.inr h5)
        · intro hm
          have := (h6 x hm).2
          omega
    · by_cases hg : (0 ≤ z ∧ z < (N : Int)) ∧ s.size ≤ 512
      · rw [if_pos hg, if_pos (show wgood N z s from hg)]
        have := h.sim.write (b := z.toNat) (by omega) (sec (nums s))
        rwa [show ((z.toNat : Nat) : Int) = z by omega] at this
      · rw [if_neg hg, if_neg (show ¬ wgood N z s from hg)]
        exact h.sim
  obtain ⟨ev, hev⟩ : ∃ ev : Int, ev = if (0 ≤ z ∧ z < (N : Int)) ∧ s.size ≤ 512 then 0 else 1 := ⟨_, rfl⟩
  have hev2 : (if wgood N z s then (0 : Int) else 1) = ev := by rw [hev]; rfl
  rw [← hev] at SW
  have SW := Lib.hid SW
  have hev2 := Lib.hid hev2
  clear hev
  clear h hLT hpl html ht2l w0l ob zb bw hx1 hk8
  go_enter Tryz.func15, Tryz.ntmps15
  go_wp2_with fail
  refine wp_region_noPanic ?_
  refine wp_region_held_drew (S := fun w' => w'.cell? ⟨w.heap.size, 1, none⟩ = some (.int .i64 z) ∧ w'.cell? ⟨w.heap.size, 2, none⟩ = some (.string s)) (by kernel_rfl) ⟨x1, x2⟩ (fun hHeld => ?_)
  refine take_ (i := 0) (v := ?_) 15 rfl rfl (by kernel_rfl) (by kernel_rfl) (by kernel_rfl) (fun _ _ _ h => h) (Or.inl ⟨by rfl, ?_⟩) (by assumption) ?_
  rotate_left
  · (intro wS hSw; (try dsimp only at hSw); go_simp; try with_reducible rfl)
  simp only [Act.put, List.setIfInBounds_toArray, List.set_cons_zero, List.set_cons_succ]
  refine take_ (i := 1) (v := ?_) 16 rfl rfl (by kernel_rfl) (by kernel_rfl) (by kernel_rfl) (fun _ _ _ h => h) (Or.inl ⟨by rfl, ?_⟩) (by assumption) ?_
  rotate_left
  · (intro wS hSw; (try dsimp only at hSw); go_simp; try with_reducible rfl)
  simp only [Act.put, List.setIfInBounds_toArray, List.set_cons_zero, List.set_cons_succ]
  refine take_ (i := 2) (v := ?_) 17 rfl rfl (by kernel_rfl) (by kernel_rfl) (by kernel_rfl) (fun _ _ _ h => h) (Or.inl ⟨by rfl, ?_⟩) (by assumption) ?_
  rotate_left
  · (intro wS hSw; (try dsimp only at hSw); go_simp; try with_reducible rfl)
  simp only [Act.put, List.setIfInBounds_toArray, List.set_cons_zero, List.set_cons_succ]
  refine take_ (i := 3) (v := ?_) 18 rfl rfl (by kernel_rfl) (by kernel_rfl) (by kernel_rfl) (fun _ _ _ h => h) (Or.inl ⟨by rfl, ?_⟩) (by assumption) ?_
  rotate_left
  · (intro wS hSw; (try dsimp only at hSw); go_simp; try with_reducible rfl)
  simp only [Act.put, List.setIfInBounds_toArray, List.set_cons_zero, List.set_cons_succ]
  refine take_ (i := 4) (v := ?_) 19 rfl rfl (by kernel_rfl) (by kernel_rfl) (by kernel_rfl) (fun _ _ _ h => h) (Or.inl ⟨by rfl, ?_⟩) (by assumption) ?_
  rotate_left
  · (intro wS hSw; (try dsimp only at hSw); go_simp; try with_reducible rfl)
  simp only [Act.put, List.setIfInBounds_toArray, List.set_cons_zero, List.set_cons_succ]
  refine take_ (i := 7) (v := ?_) 22 rfl rfl (by kernel_rfl) (by kernel_rfl) (by kernel_rfl) (fun _ _ _ h => h) (Or.inl ⟨by rfl, ?_⟩) (by assumption) ?_
  rotate_left
  · (intro wS hSw; (try dsimp only at hSw); go_simp; try with_reducible rfl)
  simp only [Act.put, List.setIfInBounds_toArray, List.set_cons_zero, List.set_cons_succ]
  refine take_ (i := 8) (v := ?_) 23 rfl rfl (by kernel_rfl) (by kernel_rfl) (by kernel_rfl) (fun _ _ _ h => h) (Or.inl ⟨by rfl, ?_⟩) (by assumption) ?_
  rotate_left
  · (intro wS hSw; (try dsimp only at hSw); go_simp; try with_reducible rfl)
  simp only [Act.put, List.setIfInBounds_toArray, List.set_cons_zero, List.set_cons_succ]
  refine take_ (i := 9) (v := ?_) 24 rfl rfl (by kernel_rfl) (by kernel_rfl) (by kernel_rfl) (fun _ _ _ h => h) (Or.inl ⟨by rfl, ?_⟩) (by assumption) ?_
  rotate_left
  · (intro wS hSw; (try dsimp only at hSw); go_simp; try with_reducible rfl)
  simp only [Act.put, List.setIfInBounds_toArray, List.set_cons_zero, List.set_cons_succ]
  refine take_ (i := 10) (v := ?_) 25 rfl rfl (by kernel_rfl) (by kernel_rfl) (by kernel_rfl) (fun _ _ _ h => h) (Or.inl ⟨by rfl, ?_⟩) (by assumption) ?_
  rotate_left
  · (intro wS hSw; (try dsimp only at hSw); go_simp; try with_reducible rfl)
  simp only [Act.put, List.setIfInBounds_toArray, List.set_cons_zero, List.set_cons_succ]
  refine take_ (i := 11) (v := ?_) 26 rfl rfl (by kernel_rfl) (by kernel_rfl) (by kernel_rfl) (fun _ _ _ h => h) (Or.inl ⟨by rfl, ?_⟩) (by assumption) ?_
  rotate_left
  · (intro wS hSw; (try dsimp only at hSw); go_simp; try with_reducible rfl)
  simp only [Act.put, List.setIfInBounds_toArray, List.set_cons_zero, List.set_cons_succ]
  refine one_ (i := 5) _ (by kernel_rfl) rfl (fun K hK => ?_)
  go_simp
  refine hK.out _ _ ⟨y1, y2⟩ (fun hHeld => ?_)
  clear hK K
  refine one_ (i := 6) _ (by kernel_rfl) rfl (fun K hK => ?_)
  go_simp
  refine SW.out.mono ?_
  rintro e w5 ⟨rfl, hpo5, ho5⟩
  obtain ⟨po5, rb5, rt5⟩ := D1.out.left hpo5 ho5 (fun x hx => by
    simp only [List.mem_cons, List.not_mem_nil, or_false] at hx
    rcases hx with rfl | rfl
    · exact mem_pfoot.2 (.inr (.inr D1.out.po.ps.pin))
    · exact mem_pfoot.2 (.inr (.inl rfl)))
  have O5 : Hid (Only (dfoot t tm P KR K2) w w5) := (Only.of_below (F := dfoot t tm P KR K2) BW.out).trans ho5 (fun x hx => .inl (by
    simp only [List.mem_cons, List.not_mem_nil, or_false] at hx
    refine mem_dfoot.2 (.inl ?_)
    rcases hx with rfl | rfl
    · exact mem_pfoot.2 (.inr (.inr D1.out.po.ps.pin))
    · exact mem_pfoot.2 (.inr (.inl rfl))))
  have RW := r_write w0 w5 r t2 N (reg - 1) L Ls v vL vs KR K2 z s rb5 rt5 po5.ps.below.size (by have := FW.out; omega)
  rw [hev2.out] at RW
  have RW := Lib.hid RW
  have OC5 : Hid (Held w5 w.heap.size 45 #[.int .u8 (kd : Int), .int .i64 z, .string s]) := OC.out.only ho5 (by simpa using ⟨QN.out.1, QN.out.2.1⟩)
  have PO5 := Lib.hid po5
  have c1 : w5.cell? ⟨w.heap.size, 1, none⟩ = some (.int .i64 z) := OC5.out.cell 1
  have c2 : w5.cell? ⟨w.heap.size, 2, none⟩ = some (.string s) := OC5.out.cell 2
  clear hpo5 ho5 po5 rb5 rt5 SW hHeld x1 x2 y1 y2 OC
  go_wp2_with fail
  refine hK.out _ _ ⟨c1, c2⟩ (fun hHeld => ?_)
  clear hK K
  refine one_ (i := 12) _ (by kernel_rfl) rfl (fun K hK => ?_)
  go_simp
  refine RW.out.mono ?_
  rintro e w6 ⟨vL', K', rfl, hb6, ht6, ho6, hk6⟩
  have po6 := PO5.out.only ho6 (fun x hx => by
    have : x = t2 := by simpa using hx
    rw [this]; exact D1.out.t2_far)
  have DU := SI.out vL' K' w6 po6 hb6 ht6 (fun x hx => (hk6 x hx).imp id (fun h => ⟨w5, h, PO5.out.lt⟩))
  have GR : Grows w w6 (dfoot t tm P KR K2) (dfoot t tm P KR K') := ⟨O5.out.trans ho6 (fun x hx => .inl (by
    have : x = t2 := by simpa using hx
    rw [this]
    exact mem_dfoot.2 (.inr (.inr ((D1.out.rt.foot t2).2 (.inl rfl)))))), fun x hx => by
      rcases mem_dfoot.1 hx with e2 | e2 | e2
      · exact .inl (mem_dfoot.2 (.inl e2))
      · exact .inl (mem_dfoot.2 (.inr (.inl e2)))
      · rcases hk6 x e2 with e3 | e3
        · exact .inl (mem_dfoot.2 (.inr (.inr e3)))
        · exact .inr (Nat.le_trans O5.out.size e3)⟩
  obtain ⟨A', c', rfl⟩ := pslice ht6.row
  have t21 : w6.cell? ⟨t2, 1, none⟩ = some _ := ht6.tx.cell 1
  have SD := s_dirty w0 w6 cm p d reg N t tm _ C P po6
  have e1 := DU.sim.len
  rw [e1] at SD
  have OC6 : Hid (Held w6 w.heap.size 45 #[.int .u8 (kd : Int), .int .i64 z, .string s]) := OC5.out.only ho6 (by simpa using QN.out.2.2)
  have c3 : w6.cell? ⟨w.heap.size, 1, none⟩ = some (.int .i64 z) := OC6.out.cell 1
  have c4 : w6.cell? ⟨w.heap.size, 2, none⟩ = some (.string s) := OC6.out.cell 2
  have RES : Hid (StepRes w0 w cm p d reg N t tm r t2 C Ls P v vs KR K2 (.returned (.bool true)) w6) := ⟨_, _, _, _, rfl, DU, GR⟩
  generalize (if wgood N z s then dropB L z ++ [(z.toNat, sec (nums s))] else L).length = m at *
  have SD := Lib.hid SD
  clear hb6 ht6 ho6 hk6 po6 DU GR e1 RW PO5 OC5 c1 c2
  go_wp2_with fail
  refine hK.out _ _ ⟨c3, c4⟩ (fun hHeld => ?_)
  clear hK K
  refine wpAnyH_strong (S' := fun w' => (w'.cell? ⟨w.heap.size, 1, none⟩ = some (.int .i64 z) ∧ w'.cell? ⟨w.heap.size, 2, none⟩ = some (.string s)) ∧ w'.cell? ⟨t2, 1, none⟩ = some (.slice A' m c')) (fun _ h => h.1) _ _ _ _ ?_
  have hH6 : (w6.cell? ⟨w.heap.size, 1, none⟩ = some (.int .i64 z) ∧ w6.cell? ⟨w.heap.size, 2, none⟩ = some (.string s)) ∧ w6.cell? ⟨t2, 1, none⟩ = some (.slice A' m c') := ⟨⟨c3, c4⟩, t21⟩
  refine take_ (i := 13) (v := ?_) 28 rfl rfl (by kernel_rfl) (by kernel_rfl) (by kernel_rfl) (fun _ _ _ h => h) (Or.inl ⟨by rfl, ?_⟩) (by assumption) ?_
  rotate_left
  · (intro wS hSw; (try dsimp only at hSw); go_simp; try with_reducible rfl)
  simp only [Act.put, List.setIfInBounds_toArray, List.set_cons_zero, List.set_cons_succ]
  refine take_ (i := 14) (v := ?_) 29 rfl rfl (by kernel_rfl) (by kernel_rfl) (by kernel_rfl) (fun _ _ _ h => h) (Or.inl ⟨by rfl, ?_⟩) (by assumption) ?_
  rotate_left
  · (intro wS hSw; (try dsimp only at hSw); go_simp; try with_reducible rfl)
  simp only [Act.put, List.setIfInBounds_toArray, List.set_cons_zero, List.set_cons_succ]
  refine take_ (i := 15) (v := ?_) 30 rfl rfl (by kernel_rfl) (by kernel_rfl) (by kernel_rfl) (fun _ _ _ h => h) (Or.inl ⟨by rfl, ?_⟩) (by assumption) ?_
  rotate_left
  · (intro wS hSw; (try dsimp only at hSw); go_simp; try with_reducible rfl)
  simp only [Act.put, List.setIfInBounds_toArray, List.set_cons_zero, List.set_cons_succ]
  refine take_ (i := 17) (v := ?_) 32 rfl rfl (by kernel_rfl) (by kernel_rfl) (by kernel_rfl) (fun _ _ _ h => h) (Or.inl ⟨by rfl, ?_⟩) (by assumption) ?_
  rotate_left
  · (intro wS hSw; (try dsimp only at hSw); go_simp; try with_reducible rfl)
  simp only [Act.put, List.setIfInBounds_toArray, List.set_cons_zero, List.set_cons_succ]
  refine take_ (i := 18) (v := ?_) 33 rfl rfl (by kernel_rfl) (by kernel_rfl) (by kernel_rfl) (fun _ _ _ h => h) (Or.inl ⟨by rfl, ?_⟩) (by assumption) ?_
  rotate_left
  · (intro wS hSw; (try dsimp only at hSw); go_simp; try with_reducible rfl)
  simp only [Act.put, List.setIfInBounds_toArray, List.set_cons_zero, List.set_cons_succ]
  refine take_ (i := 19) (v := ?_) 34 rfl rfl (by kernel_rfl) (by kernel_rfl) (by kernel_rfl) (fun _ _ _ h => h) (Or.inl ⟨by rfl, ?_⟩) (by assumption) ?_
  rotate_left
  · (intro wS hSw; (try dsimp only at hSw); go_simp; try with_reducible rfl)
  simp only [Act.put, List.setIfInBounds_toArray, List.set_cons_zero, List.set_cons_succ]
  refine take_ (i := 20) (v := ?_) 35 rfl rfl (by kernel_rfl) (by kernel_rfl) (by kernel_rfl) (fun _ _ _ h => h) (Or.inl ⟨by rfl, ?_⟩) (by assumption) ?_
  rotate_left
  · (intro wS hSw; (try dsimp only at hSw); go_simp; try with_reducible rfl)
  simp only [Act.put, List.setIfInBounds_toArray, List.set_cons_zero, List.set_cons_succ]
  refine take_ (i := 21) (v := ?_) 36 rfl rfl (by kernel_rfl) (by kernel_rfl) (by kernel_rfl) (fun _ _ _ h => h) (Or.inl ⟨by rfl, ?_⟩) (by assumption) ?_
  rotate_left
  · (intro wS hSw; (try dsimp only at hSw); go_simp; try with_reducible rfl)
  simp only [Act.put, List.setIfInBounds_toArray, List.set_cons_zero, List.set_cons_succ]
  refine one_ (i := 16) _ (by kernel_rfl) rfl (fun K hK => ?_)
  go_simp
  refine SD.out.mono ?_
  rintro e w' ⟨rfl, rfl⟩
  go_wp2_with fail
  refine hK.out _ _ ⟨⟨c3, c4⟩, t21⟩ (fun hHeld => ?_)
  clear hK K
  refine take_ (i := 22) (v := ?_) 37 rfl rfl (by kernel_rfl) (by kernel_rfl) (by kernel_rfl) (fun _ _ _ h => h) (Or.inl ⟨by rfl, ?_⟩) (by assumption) ?_
  rotate_left
  · (intro wS hSw; (try dsimp only at hSw); go_simp; try with_reducible rfl)
  simp only [Act.put, List.setIfInBounds_toArray, List.set_cons_zero, List.set_cons_succ]
  refine take_ (i := 23) (v := ?_) 38 rfl rfl (by kernel_rfl) (by kernel_rfl) (by kernel_rfl) (fun _ _ _ h => h) (Or.inl ⟨by rfl, ?_⟩) (by assumption) ?_
  rotate_left
  · (intro wS hSw; (try dsimp only at hSw); go_simp; try with_reducible rfl)
  simp only [Act.put, List.setIfInBounds_toArray, List.set_cons_zero, List.set_cons_succ]
  refine take_ (i := 24) (v := ?_) 6 rfl rfl (by kernel_rfl) (by kernel_rfl) (by kernel_rfl) (fun _ _ _ h => h) (Or.inl ⟨by rfl, ?_⟩) (by assumption) ?_
  rotate_left
  · (intro wS hSw; (try dsimp only at hSw); go_simp; try with_reducible rfl)
  simp only [Act.put, List.setIfInBounds_toArray, List.set_cons_zero, List.set_cons_succ]
  refine wpAnyH_done (by kernel_rfl) ?_ _
  refine NoPanic.normal ?_
  clear c3 c4 t21 hHeld hH6
  go_wp2_with fail
  go_ret
  exact RES.out
end Go.Proofs.YtkajneeihhobhaaGreat

namespace Go.Proofs.YtkajneeihhobhaaGreat
open Go.RowKit Go.Maps Wal Pgr

theorem mod_ne {kd : Nat} (h : ¬ (kd : Int) % 6 = 0) : decide ((kd : Int) % 6 = 0) = false := decide_eq_false h
set_option maxRecDepth 100000 in
set_option maxHeartbeats 6400000 in
theorem step_read (w0 w : World) (cm : Bool) (p d reg N t tm r t2 : Nat) (g : Com) (C : List Com) (L : List (Nat × List Nat)) (Ls : List (List (Nat × List Nat))) (P : PS) (v vL : Value) (vs : List Value) (KR K2 : List Nat) (kd : Nat) (z : Int) (s : ByteArray) (h : Duo w0 w cm p d reg N t tm r t2 g C L Ls P v vL vs KR K2) (hk : ¬ (kd : Int) % 6 = 0) (hk8 : kd < 256) (hLs : Ls.length ≤ 5800000000000) :
    Calls Tryz.prog 15 #[.pointer (some ⟨t, 0, none⟩), .pointer (some ⟨t2, 0, none⟩), .agg #[.int .u8 (kd : Int), .int .i64 z, .string s]] w fun e w' => e = .returned (.bool true) ∧ Duo w0 w' cm p d reg N t tm r t2 g C L Ls P v vL vs KR K2 ∧ Only [p] w w' := by
  have H := Lib.hid h
  have HLS := Lib.hid hLs
  have FW := Lib.hid h.few
  have hpl : p < w.heap.size := (h.po.lt p (mem_pfoot.2 (.inr (.inr h.po.ps.pin)))).2
  have ob := Held.new w 45 #[.int .u8 (kd : Int), .int .i64 z, .string s] rfl
  have bw : Below w.heap.size w (w.alloc (.cells #[.int .u8 (kd : Int), .int .i64 z, .string s] 45)) := (Below.refl _ _).alloc (Nat.le_refl _) _
  have OC := Lib.hid ob
  have BW := Lib.hid bw
  have D1 := Lib.hid (h.under bw)
  have QN : Hid (w.heap.size ≠ p) := by show _ ≠ _; omega
  have kb : (kd : Int) < 256 := by omega
  have kb0 : (0 : Int) ≤ (kd : Int) := by omega
  clear h hpl ob bw hk8 hLs
  by_cases hz : 0 ≤ z ∧ z < (N : Int)
  · have ez : z = (z.toNat : Int) := by omega
    have RD := s_read w0 _ cm p d reg N t tm g C P z.toNat D1.out.po (by omega)
    rw [← ez] at RD
    have RD := Lib.hid RD
    have HZ := Lib.hid hz
    have ES : Hid (seeB C g z.toNat = seeL Ls L z) := by
      have := D1.out.sim.see (fun b => D1.out.sims.at_ b) z.toNat
      rwa [← ez] at this
    clear hz ez
    go_enter Tryz.func15, Tryz.ntmps15
    go_wp2_with fail
    refine RD.out.mono ?_
    rintro e w5 ⟨q, T, rfl, hq, hh, hpo5, ho5⟩
    obtain ⟨po5, rb5, rt5⟩ := D1.out.left hpo5 ho5 (fun x hx => by
      have : x = p := by simpa using hx
      rw [this]
      exact mem_pfoot.2 (.inr (.inr D1.out.po.ps.pin)))
    have hblk : Blk (seeB C g z.toNat) := seeB_blk (N := N) (fun x hx => by have := po5.ps.inv.fine x hx; rwa [po5.ps.ids.2.2.2] at this) po5.fine _
    have RR := Lib.hid (rtread_any w5 w0.heap.size w0.heap.size r t2 N (reg - 1) v vL vs L Ls z (rt5.rtx rb5) rb5.puts HZ.out (by have := FW.out; omega) HLS.out)
    have D5 : Hid (Duo w0 w5 cm p d reg N t tm r t2 g C L Ls P v vL vs KR K2) := ⟨po5, rb5, rt5, D1.out.far, D1.out.sim, D1.out.sims⟩
    have O5 : Hid (Only [p] w w5) := (Only.of_below (F := [p]) BW.out).trans ho5 (fun _ hx => .inl hx)
    have OC5 : Hid (Held w5 w.heap.size 45 #[.int .u8 (kd : Int), .int .i64 z, .string s]) := OC.out.only ho5 (by simpa using QN.out)
    have c1 : w5.cell? ⟨w.heap.size, 1, none⟩ = some (.int .i64 z) := OC5.out.cell 1
    obtain ⟨S, hS⟩ : ∃ S, S = strB (seeL Ls L z) := ⟨_, rfl⟩
    have HB : Hid (Held w5 q T ((seeB C g z.toNat).map u8v).toArray ∧ Blk (seeB C g z.toNat) ∧ strB (seeB C g z.toNat) = S) := ⟨hh, hblk, by rw [ES.out, hS]⟩
    rw [← hS] at RR
    clear hq hh hpo5 ho5 po5 rb5 rt5 hblk hS RD OC D1
    go_wp2_with fail
    refine RR.out.mono ?_
    rintro e w6 ⟨rfl, hb6⟩
    have hcv : (convert 56 9 (.slice (some ⟨q, 0, none⟩) 512 512)).run Tryz.prog w6 = .ok (.string S) w6 := by
      rw [← HB.out.2.2]
      exact ((HB.out.1.only (Only.of_below (F := []) hb6) (by simp)).bts HB.out.2.1).toStr byteT Tryz.underlying9 512
    have O6 : Hid (Only [p] w w6) := O5.out.under hb6
    have D6 := Lib.hid (D5.out.under hb6)
    clear hb6 RR D5 OC5 c1 HB
    go_wp2_with fail
    go_ret
    exact ⟨rfl, D6.out, O6.out⟩
  · have RD := Lib.hid (s_read_bad w0 _ cm p d reg N t tm g C P z D1.out.po hz)
    have HZ := Lib.hid hz
    clear hz
    go_enter Tryz.func15, Tryz.ntmps15
    go_wp2_with fail
    refine RD.out.mono ?_
    rintro e w5 ⟨rfl, hpo5, ho5⟩
    obtain ⟨po5, rb5, rt5⟩ := D1.out.left hpo5 ho5 (fun x hx => by
      have : x = p := by simpa using hx
      rw [this]
      exact mem_pfoot.2 (.inr (.inr D1.out.po.ps.pin)))
    have RR := Lib.hid (rtread_bad w5 w0.heap.size r t2 N (reg - 1) v vL L z (rt5.rtx rb5) HZ.out)
    have D5 : Hid (Duo w0 w5 cm p d reg N t tm r t2 g C L Ls P v vL vs KR K2) := ⟨po5, rb5, rt5, D1.out.far, D1.out.sim, D1.out.sims⟩
    have O5 : Hid (Only [p] w w5) := (Only.of_below (F := [p]) BW.out).trans ho5 (fun _ hx => .inl hx)
    have OC5 : Hid (Held w5 w.heap.size 45 #[.int .u8 (kd : Int), .int .i64 z, .string s]) := OC.out.only ho5 (by simpa using QN.out)
    have c1 : w5.cell? ⟨w.heap.size, 1, none⟩ = some (.int .i64 z) := OC5.out.cell 1
    clear hpo5 ho5 po5 rb5 rt5 RD OC D1
    go_wp2_with fail
    refine RR.out.mono ?_
    rintro e w6 ⟨rfl, rfl⟩
    have hcv : (convert 56 9 (.slice none 0 0)).run Tryz.prog w5 = .ok (.string ⟨#[]⟩) w5 := (show Bts w5 none 0 [] from ⟨rfl, (by simp), fun h => by omega⟩).toStr byteT Tryz.underlying9 0
    clear RR OC5 c1
    go_wp2_with fail
    go_ret
    exact ⟨rfl, D5.out, O5.out⟩
end Go.Proofs.YtkajneeihhobhaaGreat
