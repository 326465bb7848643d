/-
  pager: opened again, and again behind a crash: the law's walk.
-/
import Derived.Test.YtaoldopkehbhkaaGreatMPgZ
namespace Go.Proofs.YtaoldopkehbhkaaGreat.pagerTwice
open Go.ChangeShapes Go.WideShapes Go.ChangeAt Go.RowKit Pgr Wal

theorem ne_self (a : Int) : (a != a) = false := by simp
theorem n_write (w0 w : World) (p d reg N t tm : Nat) (g : Com) (C : List Com) (z : Int) (A : Option Addr) (n c : Nat) (l : List Nat) (h : HoldT w0 w p d reg N t tm g C) (hl : Bts w A n l) (hA : 0 < n → ∀ x, A = some x → x.block ≠ p ∧ x.block ≠ tm) :
    Calls Tryz.prog 28 #[.pointer (some ⟨t, 0, none⟩), .int .i64 z, .slice A n c] w fun e w' => ∃ v g', e = .returned (.int .i64 v) ∧ HoldT w0 w' p d reg N t tm g' C := by
  by_cases hz : (0 ≤ z ∧ z < (N : Int)) ∧ n ≤ 512
  · have ez : z = (z.toNat : Int) := by omega
    rw [ez]
    exact (l_write w0 w p d reg N t tm g C z.toNat A n c l h (by omega) hl hz.2 hA).mono fun e w' h => ⟨_, _, h.1, h.2.1⟩
  · exact (l_write_bad w0 w p d reg N t tm g C z A n c h (by omega)).mono fun e w' h => ⟨_, _, h.1, h.2.1⟩
theorem n_commit (w0 w : World) (p d reg N t tm : Nat) (g : Com) (C : List Com) (h : HoldT w0 w p d reg N t tm g C) (hC : C.length < 1152921504606846976) :
    Calls Tryz.prog 17 #[.pointer (some ⟨t, 0, none⟩)] w fun e w' => ∃ x y C', e = .returned (.tuple #[.int .i64 x, .int .i64 y]) ∧ Hold w0 w' p d reg N C' ∧ C'.length ≤ C.length + 1 := by
  refine (l_commit w0 w p d reg N t tm g C h hC).mono fun e w' k => ?_
  by_cases h0 : (dirt N g).length = 0
  · obtain ⟨rfl, h1⟩ := k.none_ h0
    exact ⟨_, _, C, rfl, h1, by omega⟩
  · by_cases h1 : (dirt N g).length ≤ 1024 ∧ need (rows N g) ≤ reg - 1
    · obtain ⟨rfl, h2⟩ := k.some_ h0 h1
      exact ⟨_, _, C ++ [g], rfl, h2, by simp⟩
    · obtain ⟨rfl, h2⟩ := k.big h0 h1
      exact ⟨_, _, C, rfl, h2, by omega⟩
/-- The disk rests, and tells of the commits C. -/
structure Rest (w0 w : World) (d : Nat) (F : List Nat) (m : Dsk.DM) (C : List Com) (v : Value) (B : Nat) : Prop where
  disk : DiskAt w d F m
  below : Below w0.heap.size w0 w
  new : ∀ x ∈ F, w0.heap.size ≤ x
  len : m.dur.length = 60
  wait : m.wait = []
  up : m.dead = false
  calm : m.fuel = -1
  tells : ∃ st fi, Pgr.Tells 30 30 (holds m.dur) C st fi
  row : w.ownsRow B 9 1 v 30 (allB C 30)
  far : ∀ x ∈ F, v.ownBlock ≠ some x
theorem rest_of {w0 w : World} {p d : Nat} {tx v : Value} {C : List Com} {P : PS} {B : Nat} (h : HoldP w0 w p d 30 30 tx C P) (hs : P.s.synced = C.length) (hr : w.ownsRow B 9 1 v 30 (allB C 30)) (hf : ∀ x ∈ P.F, v.ownBlock ≠ some x) : Rest w0 w d P.F P.m C v B := by
  have h1 := h.inv.wait_none hs
  have h2 := h.inv.safe []
  rw [h1, hs, List.take_length, h.ids.2.2.1, h.ids.2.2.2] at h2
  have h3 := h.pag.size
  rw [h.ids.2.2.1, h.ids.2.2.2] at h3
  have h4 := h.pag.log.disk
  rw [h.ids.2.1] at h4
  exact ⟨h4, h.below, fun x hx => h.new x (pmem_foot.2 (.inr (.inr (List.mem_append.2 (.inr hx))))), h3, h1, h.inv.inv.alive, h.calm, ⟨_, _, h2⟩, hr, hf⟩
theorem hold_of {w0 w w' : World} {d : Nat} {F : List Nat} {m : Dsk.DM} {C : List Com} {P : PS} {v : Value} {B : Nat} (h : Rest w0 w d F m C v B) (k : OpenPag w d F m 30 C P w') : HoldP w0 w' P.p d 30 30 (.pointer none) C P := by
  refine ⟨k.pag, k.inv, ⟨rfl, k.d_, k.reg, by rw [k.n, h.len]⟩, h.below.trans (k.only.below h.below.size h.new), fun x hx => ?_, by rw [k.m_]; exact h.calm⟩
  have h1 := h.below.size
  rcases pmem_foot.1 hx with h2 | h2 | h2
  · have := k.new x (.inl h2); omega
  · have := k.new x (.inr (.inl h2)); omega
  · rcases List.mem_append.1 h2 with h3 | h3
    · have := k.new x (.inr (.inr h3)); omega
    · rcases k.foot x h3 with h4 | h4
      · exact h.new x h4
      · omega
theorem Rest.under {w0 w w' : World} {d : Nat} {F : List Nat} {m : Dsk.DM} {C : List Com} {v : Value} {B : Nat} (h : Rest w0 w d F m C v B) (k : Below w.heap.size w w') : Rest w0 w' d F m C v B :=
  ⟨h.disk.below k, h.below.trans (k.mono h.below.size), h.new, h.len, h.wait, h.up, h.calm, h.tells, (Only.of_below (F := []) k).row h.row (fun _ _ hx => by cases hx), h.far⟩
/-- Behind a crash. -/
theorem Rest.crashed {w0 w w' : World} {d : Nat} {F F' : List Nat} {m : Dsk.DM} {C : List Com} {v : Value} {B : Nat} (h : Rest w0 w d F m C v B) (l : List Bool) (hd : DiskAt w' d F' (m.crash l)) (ho : Only F w w') (hf : ∀ x ∈ F', x ∈ F ∨ w.heap.size ≤ x) : Rest w0 w' d F' (m.crash l) C v B := by
  have e : (m.crash l).dur = m.dur := by
    show Dsk.crashD m.wait l m.dur = _
    rw [h.wait]
    rfl
  refine ⟨hd, h.below.trans (ho.below h.below.size h.new), fun x hx => ?_, by rw [e]; exact h.len, rfl, rfl, rfl, by rw [e]; exact h.tells, ho.row h.row (fun x hx hm => h.far x hm hx), fun x hx ex => ?_⟩
  · have := h.below.size
    rcases hf x hx with h1 | h1
    · exact h.new x h1
    · omega
  · rcases hf x hx with h1 | h1
    · exact h.far x h1 ex
    · have := (h.row.lt x ex).2
      omega
/-- Opened, and its blocks read. -/
theorem Rest.opened {w0 w w1 w2 w3 : World} {d : Nat} {F : List Nat} {m : Dsk.DM} {C : List Com} {P : PS} {v : Value} {B : Nat} (h : Rest w0 w d F m C v B) (k : OpenPag w d F m 30 C P w1) (hb : Below w1.heap.size w1 w2) (hp : HoldP w0 w3 P.p d 30 30 (.pointer none) C P) (ho : Only [P.p] w2 w3) : Rest w0 w3 d P.F P.m C v B := by
  have r1 := k.only.row h.row (fun x hx hm => h.far x hm hx)
  have r2 := (Only.of_below (F := []) hb).row r1 (fun _ _ hx => by cases hx)
  have r3 := ho.row r2 (fun x hx hm => by
    have h1 := (h.row.lt x hx).2
    have h2 := k.new P.p (.inl rfl)
    rw [List.mem_singleton.1 hm] at h1
    omega)
  refine rest_of hp k.syn r3 (fun x hx ex => ?_)
  rcases k.foot x hx with h1 | h1
  · exact h.far x h1 ex
  · have := (h.row.lt x ex).2
    omega
theorem row_at {w : World} {B c : Nat} {A : Option Addr} {C : List Com} (h : w.ownsRow B 9 1 (.slice A 30 c) 30 (allB C 30)) : ∃ g, A = some ⟨g, 0, none⟩ ∧ ∀ k, k < 30 → w.cell? ⟨g, k, none⟩ = some (.string (strB (At C k))) := by
  obtain ⟨g, rfl⟩ : ∃ g, A = some ⟨g, 0, none⟩ := by
    rcases h.2 with ⟨h1, _⟩ | ⟨g', cap, cur, h1, _⟩
    · injection h1 with _ h2 _
      omega
    · injection h1 with h1 _ _
      exact ⟨g', h1⟩
  refine ⟨g, rfl, fun k hk => ?_⟩
  rw [h.cellAt k (by omega)]
  unfold allB
  rw [List.getElem?_map, List.getElem?_range hk]
  rfl
set_option maxRecDepth 100000 in
set_option maxHeartbeats 6400000 in
theorem walk (A : Option Addr) (n c : Nat) (l : Nat → Nat × Int × ByteArray) (kA : Option Addr) (kn kc : Nat) (kl : List Bool) (w : World) (hl : POps w A n l) (hn : n ≤ 9223372036854775807) (hk : Bls w kA kn kl) (hkn : kn ≤ 9223372036854775807) (hkA : 0 < kn → ∀ a, kA = some a → a.block < w.heap.size) :
    Calls Tryz.prog 9 #[.slice A n c, .slice kA kn kc] w fun e w' => e = .returned (.bool true) ∧ Below w.heap.size w w' := by
  have kc' := fun W s => Lib.run_convert_string_bytes (P := Tryz.prog) W 9 56 5 s Tryz.underlying9 Tryz.underlying56 Tryz.underlying5
  have HL := Lib.hid hl
  have HK : Hid (Bls w kA kn kl ∧ kn ≤ 9223372036854775807 ∧ (0 < kn → ∀ a, kA = some a → a.block < w.heap.size)) := ⟨hk, hkn, hkA⟩
  have FX := Lib.hid (pfixed_any w)
  have hn' : (n : Int) ≤ 9223372036854775807 := by omega
  clear hl hk hkn hkA
  go_enter Tryz.func9, Tryz.ntmps9
  go_wp2_with fail
  refine FX.out.mono ?_
  rintro e w0 ⟨rfl, hb0⟩
  have B0 := Lib.hid hb0
  have ND := new_any w0 (60 : Int)
  rw [show clampN (60 : Int) = 60 from by decide] at ND
  have ND := Lib.hid ND
  clear hb0 FX
  go_wp2_with fail
  refine ND.out.mono ?_
  rintro e w1 ⟨d, F, rfl, hD, hb, hF⟩
  have MK := Lib.hid (l_make w w1 d F 60 30 hD (B0.out.trans (hb.mono B0.out.size)) (fun y hy => Nat.le_trans B0.out.size (hF y hy)) (by omega) (by omega))
  clear ND hD hb hF B0
  go_wp2_with fail
  refine MK.out.mono ?_
  rintro e w2 ⟨p, rfl, hP⟩
  have BG := Lib.hid (l_begin w w2 p d 30 30 [] hP)
  clear MK hP
  go_wp2_with fail
  refine BG.out.mono ?_
  rintro e w3 ⟨t, tm, rfl, hT⟩
  have T3 := Lib.hid hT
  clear BG hT
  go_wp2_with fail
  go_loopw [8, 10] (fun tv iv wr => ∃ k t tm g C, k ≤ n ∧ k ≤ 80 ∧ iv = .int .i64 (k : Nat) ∧ tv = .pointer (some ⟨t, 0, none⟩) ∧ C.length ≤ k ∧ HoldT w wr p d 30 30 t tm g C) (fun _ iv _ => 80 - (intOf iv).toNat)
  case atStart => exact ⟨0, t, tm, _, [], by omega, by omega, rfl, rfl, by simp, T3.out⟩
  case round =>
    clear T3
    obtain ⟨k, t, tm, g, C, hk, hk8, rfl, rfl, hC, hT⟩ := hrel
    have HT := Lib.hid hT
    have HC := Lib.hid hC
    clear hT hC
    by_cases hlt : k < n ∧ k < 80
    · have hk1 : (k : Int) < (n : Int) := by omega
      have hk2 : (k : Int) < 80 := by omega
      have hk0 : (0 : Int) ≤ (k : Int) := by omega
      obtain ⟨b, off, rfl, hbw, hcl⟩ := HL.out.2 (by omega)
      have XC : Hid (∀ w', Below w.heap.size w w' → w'.cell? ⟨b, off + k * 3, none⟩ = some (.int .u8 ((l k).1 : Int)) ∧ w'.cell? ⟨b, off + k * 3 + 1, none⟩ = some (.int .i64 (l k).2.1) ∧ w'.cell? ⟨b, off + k * 3 + 2, none⟩ = some (.string (l k).2.2)) := fun w' h =>
        ⟨(h.cell (p := ⟨b, off + k * 3, none⟩) hbw).trans (hcl k hlt.1).1, (h.cell (p := ⟨b, off + k * 3 + 1, none⟩) hbw).trans (hcl k hlt.1).2.1, (h.cell (p := ⟨b, off + k * 3 + 2, none⟩) hbw).trans (hcl k hlt.1).2.2⟩
      have hbl : b < wr.heap.size := Nat.lt_of_lt_of_le hbw HT.out.below.size
      obtain ⟨_, x1, x2⟩ := XC.out wr HT.out.below
      obtain ⟨y0, _, _, ysz⟩ := HL.out.1 k hlt.1
      obtain ⟨kd, hkd⟩ : ∃ kd, kd = (l k).1 := ⟨_, rfl⟩
      obtain ⟨z, hz⟩ : ∃ z, z = (l k).2.1 := ⟨_, rfl⟩
      obtain ⟨s, hs⟩ : ∃ s, s = (l k).2.2 := ⟨_, rfl⟩
      rw [← hkd] at y0
      rw [← hkd, ← hz, ← hs] at XC
      rw [← hz] at x1
      rw [← hs] at x2 ysz
      have Y0 : Hid (kd < 256) := y0
      clear hkd hz hs hcl y0 hbw
      have BW := Lib.hid (below_bytesWorld (B := wr.heap.size) wr.drew 5 s (Nat.le_refl _))
      have x1' : (Lib.bytesWorld wr.drew 5 s).cell? ⟨b, off + k * 3 + 1, none⟩ = some (.int .i64 z) := (BW.out.cell (p := ⟨b, off + k * 3 + 1, none⟩) hbl).trans x1
      have x2' : (Lib.bytesWorld wr.drew 5 s).cell? ⟨b, off + k * 3 + 2, none⟩ = some (.string s) := (BW.out.cell (p := ⟨b, off + k * 3 + 2, none⟩) hbl).trans x2
      have LT := HT.out.lt
      have WR := Lib.hid (n_write w (Lib.bytesWorld wr.drew 5 s) p d 30 30 t tm g C z (some ⟨wr.heap.size, 0, none⟩) s.size (grownCap wr.drew s.size 0 5) (nums s) ((HT.out.under (punder_drewN wr 1)).under BW.out) (bts_bytesWorld wr.drew _ _ rfl) (fun _ x hx => by injection hx with hx; rw [← hx]; exact ⟨by show wr.heap.size ≠ p; omega, by show wr.heap.size ≠ tm; omega⟩))
      clear LT hbl
      go_upto_region 9 with fail
      refine wp_region_noPanic ?_
      refine wp_region_held_drew (S := fun w' => w'.cell? ⟨b, off + k * 3 + 1, none⟩ = some (.int .i64 z) ∧ w'.cell? ⟨b, off + k * 3 + 2, none⟩ = some (.string s)) (by kernel_rfl) ⟨x1, x2⟩ (fun hHeld => ?_)
      refine take_ (i := 0) (v := ?_) 43 rfl rfl (by kernel_rfl) (by kernel_rfl) (by kernel_rfl) (fun _ _ _ h => h) (Or.inl ⟨by rfl, ?_⟩) (by assumption) ?_
      rotate_left
      · (intro wS hSw; (try dsimp only at hSw); go_simp; try with_reducible rfl)
      simp only [Act.put, List.setIfInBounds_toArray, List.set_cons_zero, List.set_cons_succ]
      refine take_ (i := 1) (v := ?_) 44 rfl rfl (by kernel_rfl) (by kernel_rfl) (by kernel_rfl) (fun _ _ _ h => h) (Or.inl ⟨by rfl, ?_⟩) (by assumption) ?_
      rotate_left
      · (intro wS hSw; (try dsimp only at hSw); go_simp; try with_reducible rfl)
      simp only [Act.put, List.setIfInBounds_toArray, List.set_cons_zero, List.set_cons_succ]
      refine take_ (i := 2) (v := ?_) 45 rfl rfl (by kernel_rfl) (by kernel_rfl) (by kernel_rfl) (fun _ _ _ h => h) (Or.inl ⟨by rfl, ?_⟩) (by assumption) ?_
      rotate_left
      · (intro wS hSw; (try dsimp only at hSw); go_simp; try with_reducible rfl)
      simp only [Act.put, List.setIfInBounds_toArray, List.set_cons_zero, List.set_cons_succ]
      refine take_ (i := 3) (v := ?_) 46 rfl rfl (by kernel_rfl) (by kernel_rfl) (by kernel_rfl) (fun _ _ _ h => h) (Or.inl ⟨by rfl, ?_⟩) (by assumption) ?_
      rotate_left
      · (intro wS hSw; (try dsimp only at hSw); go_simp; try with_reducible rfl)
      simp only [Act.put, List.setIfInBounds_toArray, List.set_cons_zero, List.set_cons_succ]
      refine take_ (i := 4) (v := ?_) 47 rfl rfl (by kernel_rfl) (by kernel_rfl) (by kernel_rfl) (fun _ _ _ h => h) (Or.inl ⟨by rfl, ?_⟩) (by assumption) ?_
      rotate_left
      · (intro wS hSw; (try dsimp only at hSw); go_simp; try with_reducible rfl)
      simp only [Act.put, List.setIfInBounds_toArray, List.set_cons_zero, List.set_cons_succ]
      refine take_ (i := 5) (v := ?_) 48 rfl rfl (by kernel_rfl) (by kernel_rfl) (by kernel_rfl) (fun _ _ _ h => h) (Or.inl ⟨by rfl, ?_⟩) (by assumption) ?_
      rotate_left
      · (intro wS hSw; (try dsimp only at hSw); go_simp; try with_reducible rfl)
      simp only [Act.put, List.setIfInBounds_toArray, List.set_cons_zero, List.set_cons_succ]
      refine take_ (i := 6) (v := ?_) 49 rfl rfl (by kernel_rfl) (by kernel_rfl) (by kernel_rfl) (fun _ _ _ h => h) (Or.inl ⟨by rfl, ?_⟩) (by assumption) ?_
      rotate_left
      · (intro wS hSw; (try dsimp only at hSw); go_simp; try with_reducible rfl)
      simp only [Act.put, List.setIfInBounds_toArray, List.set_cons_zero, List.set_cons_succ]
      refine take_ (i := 7) (v := ?_) 50 rfl rfl (by kernel_rfl) (by kernel_rfl) (by kernel_rfl) (fun _ _ _ h => h) (Or.inl ⟨by rfl, ?_⟩) (by assumption) ?_
      rotate_left
      · (intro wS hSw; (try dsimp only at hSw); go_simp; try with_reducible rfl)
      simp only [Act.put, List.setIfInBounds_toArray, List.set_cons_zero, List.set_cons_succ]
      refine take_ (i := 8) (v := ?_) 51 rfl rfl (by kernel_rfl) (by kernel_rfl) (by kernel_rfl) (fun _ _ _ h => h) (Or.inl ⟨by rfl, ?_⟩) (by assumption) ?_
      rotate_left
      · (intro wS hSw; (try dsimp only at hSw); go_simp; try with_reducible rfl)
      simp only [Act.put, List.setIfInBounds_toArray, List.set_cons_zero, List.set_cons_succ]
      refine take_ (i := 9) (v := ?_) 52 rfl rfl (by kernel_rfl) (by kernel_rfl) (by kernel_rfl) (fun _ _ _ h => h) (Or.inl ⟨by rfl, ?_⟩) (by assumption) ?_
      rotate_left
      · (intro wS hSw; (try dsimp only at hSw); go_simp; try with_reducible rfl)
      simp only [Act.put, List.setIfInBounds_toArray, List.set_cons_zero, List.set_cons_succ]
      refine take_ (i := 10) (v := ?_) 53 rfl rfl (by kernel_rfl) (by kernel_rfl) (by kernel_rfl) (fun _ _ _ h => h) (Or.inl ⟨by rfl, ?_⟩) (by assumption) ?_
      rotate_left
      · (intro wS hSw; (try dsimp only at hSw); go_simp; try with_reducible rfl)
      simp only [Act.put, List.setIfInBounds_toArray, List.set_cons_zero, List.set_cons_succ]
      refine one_ (i := 11) _ (by kernel_rfl) rfl (fun K hK => ?_)
      go_simp
      refine hK.out _ _ ⟨x1', x2'⟩ (fun hHeld => ?_)
      clear hK K
      refine one_ (i := 12) _ (by kernel_rfl) rfl (fun K hK => ?_)
      go_simp
      refine WR.out.mono ?_
      rintro e w5 ⟨v5, g', rfl, hT5⟩
      have T5 := Lib.hid hT5
      obtain ⟨c0, c1, c2⟩ := XC.out w5 hT5.below
      clear hT5 WR BW HT x1 x2 x1' x2' hHeld
      go_wp2_with fail
      refine hK.out _ _ ⟨c1, c2⟩ (fun hHeld => ?_)
      clear hK K
      refine wpAnyH_done (by kernel_rfl) ?_ _
      refine NoPanic.normal ?_
      have kb : (kd : Int) < 256 := by have := Y0.out; omega
      have C0 : Hid (w5.cell? ⟨b, off + k * 3, none⟩ = some (.int .u8 (kd : Int))) := c0
      clear c0 c1 c2
      have CM := Lib.hid (n_commit w w5 p d 30 30 t tm g' C T5.out (by have := HC.out; omega))
      have c0 : w5.cell? ⟨b, off + k * 3, none⟩ = some (.int .u8 (kd : Int)) := C0.out
      have kb0 : (0 : Int) ≤ (kd : Int) := by omega
      by_cases h3 : (kd : Int) % 3 = 0
      · go_wp2_with fail
        refine CM.out.mono ?_
        rintro e w6 ⟨x6, y6, C6, rfl, hH6, hC6⟩
        have BG := Lib.hid (l_begin w w6 p d 30 30 C6 hH6)
        have HC6 : Hid (C6.length ≤ k + 1) := by show _ ≤ _; have := HC.out; omega
        clear hH6 hC6 CM T5 c0
        go_wp2_with fail
        refine BG.out.mono ?_
        rintro e w7 ⟨t7, tm7, rfl, hT7⟩
        have T7 := Lib.hid hT7
        clear hT7 BG
        go_wp2_with fail
        go_roundw
        case rel => exact ⟨k + 1, t7, tm7, _, C6, by omega, by omega, by go_num, rfl, HC6.out, T7.out⟩
        case measure => simp [intOf]; omega
      · clear CM
        go_wp2_with fail
        go_roundw
        case rel => exact ⟨k + 1, t, tm, g', C, by omega, by omega, by go_num, rfl, by have := HC.out; omega, T5.out⟩
        case measure => simp [intOf]; omega
    · by_cases hn2 : k < n
      · have hk1 : (k : Int) < (n : Int) := by omega
        have hk2 : ¬ (k : Int) < 80 := by omega
        clear hlt hn2
        go_upto_region 13 with fail
        clear hk1 hk2
        have AB := Lib.hid (l_abort w wr p d 30 30 t tm g C HT.out)
        have kC : Hid ((C.length : Int) ≤ 80 ∧ C.length < 1152921504606846976) := by show _ ∧ _; have := HC.out; omega
        clear HT HL HC kc'
        go_wp2_with fail
        refine AB.out.mono ?_
        rintro e w4 ⟨rfl, hH4, _⟩
        have SY := Lib.hid (l_sync w w4 p d 30 30 C hH4)
        clear hH4 AB
        go_wp2_with fail
        refine SY.out.mono ?_
        rintro e w5 ⟨rfl, P, hP5, hs5⟩
        have P5 := Lib.hid hP5
        have S5 := Lib.hid hs5
        have DN := Lib.hid (l_done w w5 p d 30 30 _ C P hP5)
        clear hP5 hs5 SY
        go_wp2_with fail
        refine DN.out.mono ?_
        rintro e w6 ⟨rfl, q, rfl⟩
        have P6 := Lib.hid (P5.out.under (punder_drewN w5 q))
        generalize w5.drewN q = w6 at *
        have BK := Lib.hid (pblocks_any w w6 p d 30 30 C P P6.out)
        clear DN P5
        go_wp2_with fail
        refine BK.out.mono ?_
        rintro e w7 ⟨v, rfl, hr7, hp7, _⟩
        obtain ⟨A1, c1, rfl⟩ := pslice hr7
        have R7 : Hid (Rest w w7 d P.F P.m C (.slice A1 30 c1) w6.heap.size) := rest_of hp7 S5.out hr7 (fun x hx e => by
          have h1 := (hr7.lt x e).1
          have h2 := P6.out.lt x (pmem_foot.2 (.inr (.inr (List.mem_append.2 (.inr hx)))))
          omega)
        clear hr7 hp7 BK P6 S5
        obtain ⟨B, hB⟩ : ∃ B, B = w6.heap.size := ⟨_, rfl⟩
        rw [← hB] at R7
        clear hB
        obtain ⟨N, hN⟩ : ∃ N : Int, N = (C.length : Int) := ⟨_, rfl⟩
        have HN := Lib.hid hN
        rw [← hN]
        clear hN
        go_wp2_with fail
        go_loopw [13, 14] (fun ov iv wr => ∃ j F m, j ≤ 3 ∧ iv = .int .i64 (j : Nat) ∧ ov = .bool true ∧ Rest w wr d F m C (.slice A1 30 c1) B) (fun _ iv _ => 3 - (intOf iv).toNat)
        case atStart => exact ⟨0, P.F, P.m, by omega, rfl, rfl, R7.out⟩
        case round =>
          clear R7
          obtain ⟨j, F, m, hj, rfl, rfl, hR⟩ := hrel
          have R := Lib.hid hR
          clear hR
          by_cases hj3 : j < 3
          · have hj4 : (j : Int) < 3 := by omega
            obtain ⟨st, fi, ht⟩ := R.out.tells
            have OP := Lib.hid (popen_any wr d F m 30 st fi C R.out.disk (by omega) (by rw [R.out.len]; omega) R.out.up R.out.wait kC.out.2 (by rw [R.out.len]; exact ht))
            clear ht
            go_wp2_with fail
            refine OP.out.mono ?_
            rintro e w8 ⟨Q, rfl, hO⟩
            have O8 := Lib.hid hO
            have H8 := Lib.hid (hold_of R.out hO)
            have DN := l_done w w8 Q.p d 30 30 _ C Q H8.out
            rw [← HN.out] at DN
            have DN := Lib.hid DN
            have nn : (N != N) = false := ne_self _
            clear hO OP
            go_wp2_with fail
            refine DN.out.mono ?_
            rintro e w9 ⟨rfl, q, hw9⟩
            have B9 : Hid (Below w8.heap.size w8 w9) := by rw [hw9]; exact punder_drewN _ _
            have BK := Lib.hid (pblocks_any w w9 Q.p d 30 30 C Q (H8.out.under B9.out))
            clear hw9 DN
            go_wp2_with fail
            refine BK.out.mono ?_
            rintro e w10 ⟨v2, rfl, hr10, hp10, ho10⟩
            obtain ⟨A2, c2, rfl⟩ := pslice hr10
            have R10 : Hid (Rest w w10 d Q.F Q.m C (.slice A1 30 c1) B) := R.out.opened O8.out B9.out hp10 ho10
            have V10 := Lib.hid hr10
            obtain ⟨D, hD⟩ : ∃ D, D = w9.heap.size := ⟨_, rfl⟩
            rw [← hD] at V10
            clear hr10 hp10 ho10 BK B9 O8 H8 R hD nn
            go_wp2_with fail
            go_loopw [18, 19] (fun sv bv wr => ∃ k : Nat, k ≤ 30 ∧ bv = .int .i64 (k : Nat) ∧ sv = .bool true ∧ Rest w wr d Q.F Q.m C (.slice A1 30 c1) B ∧ wr.ownsRow D 9 1 (.slice A2 30 c2) 30 (allB C 30)) (fun _ bv _ => 30 - (intOf bv).toNat)
            case atStart => exact ⟨0, by omega, rfl, rfl, R10.out, V10.out⟩
            case round =>
              clear R10 V10
              obtain ⟨k, hk, rfl, rfl, hR, hV⟩ := hrel
              have R := Lib.hid hR
              have V := Lib.hid hV
              obtain ⟨g1, rfl, hg1⟩ := row_at hR.row
              obtain ⟨g2, rfl, hg2⟩ := row_at hV
              clear hR hV
              by_cases hk3 : k < 30
              · have hk4 : (k : Int) < 30 := by omega
                have hk0 : (0 : Int) ≤ (k : Int) := by omega
                have x1 := hg1 k hk3
                have x2 := hg2 k hk3
                obtain ⟨S, hS⟩ : ∃ S, S = strB (At C k) := ⟨_, rfl⟩
                rw [← hS] at x1 x2
                clear hS hg1 hg2
                have hlk : decide ((k : Int) < 30) = true := decide_eq_true hk4
                go_upto_region 28 with fail
                go_quiet (fail)
                go_wp2_with fail
                go_roundw
                case rel => exact ⟨k + 1, by omega, by go_num, rfl, R.out.under (punder_drewN _ _), (Only.of_below (F := []) (punder_drewN _ _)).row V.out (fun _ _ hx => by cases hx)⟩
                case measure => simp [intOf]; omega
              · obtain rfl : k = 30 := by omega
                clear hg1 hg2
                have CR := Lib.hid (crash_any wr d Q.F Q.m kA kn kc kl R.out.disk (HK.out.1.kept R.out.below) HK.out.2.1 (fun h0 x hx hm => by
                  have h1 := HK.out.2.2 h0 x hx
                  have h2 := R.out.new _ hm
                  omega) (by rw [R.out.wait]; show 0 ≤ _; omega))
                clear V
                go_wp2_with fail
                refine CR.out.mono ?_
                rintro e w12 ⟨rfl, F2, hD2, hO2, hG2⟩
                have R12 : Hid (Rest w w12 d F2 (Q.m.crash kl) C (.slice (some ⟨g1, 0, none⟩) 30 c1) B) := R.out.crashed kl hD2 hO2 hG2
                clear hD2 hO2 hG2 CR R
                go_wp2_with fail
                go_roundw
                case rel => exact ⟨j + 1, F2, _, by omega, by go_num, rfl, R12.out⟩
                case measure => simp [intOf]; omega
          · obtain rfl : j = 3 := by omega
            have RES : Hid (Below w.heap.size w wr) := R.out.below
            clear R
            go_wp2_with fail
            go_ret
            exact ⟨rfl, RES.out⟩
      · have hk1 : ¬ (k : Int) < (n : Int) := by omega
        clear hlt hn2
        go_upto_region 13 with fail
        clear hk1
        have AB := Lib.hid (l_abort w wr p d 30 30 t tm g C HT.out)
        have kC : Hid ((C.length : Int) ≤ 80 ∧ C.length < 1152921504606846976) := by show _ ∧ _; have := HC.out; omega
        clear HT HL HC kc'
        go_wp2_with fail
        refine AB.out.mono ?_
        rintro e w4 ⟨rfl, hH4, _⟩
        have SY := Lib.hid (l_sync w w4 p d 30 30 C hH4)
        clear hH4 AB
        go_wp2_with fail
        refine SY.out.mono ?_
        rintro e w5 ⟨rfl, P, hP5, hs5⟩
        have P5 := Lib.hid hP5
        have S5 := Lib.hid hs5
        have DN := Lib.hid (l_done w w5 p d 30 30 _ C P hP5)
        clear hP5 hs5 SY
        go_wp2_with fail
        refine DN.out.mono ?_
        rintro e w6 ⟨rfl, q, rfl⟩
        have P6 := Lib.hid (P5.out.under (punder_drewN w5 q))
        generalize w5.drewN q = w6 at *
        have BK := Lib.hid (pblocks_any w w6 p d 30 30 C P P6.out)
        clear DN P5
        go_wp2_with fail
        refine BK.out.mono ?_
        rintro e w7 ⟨v, rfl, hr7, hp7, _⟩
        obtain ⟨A1, c1, rfl⟩ := pslice hr7
        have R7 : Hid (Rest w w7 d P.F P.m C (.slice A1 30 c1) w6.heap.size) := rest_of hp7 S5.out hr7 (fun x hx e => by
          have h1 := (hr7.lt x e).1
          have h2 := P6.out.lt x (pmem_foot.2 (.inr (.inr (List.mem_append.2 (.inr hx)))))
          omega)
        clear hr7 hp7 BK P6 S5
        obtain ⟨B, hB⟩ : ∃ B, B = w6.heap.size := ⟨_, rfl⟩
        rw [← hB] at R7
        clear hB
        obtain ⟨N, hN⟩ : ∃ N : Int, N = (C.length : Int) := ⟨_, rfl⟩
        have HN := Lib.hid hN
        rw [← hN]
        clear hN
        go_wp2_with fail
        go_loopw [13, 14] (fun ov iv wr => ∃ j F m, j ≤ 3 ∧ iv = .int .i64 (j : Nat) ∧ ov = .bool true ∧ Rest w wr d F m C (.slice A1 30 c1) B) (fun _ iv _ => 3 - (intOf iv).toNat)
        case atStart => exact ⟨0, P.F, P.m, by omega, rfl, rfl, R7.out⟩
        case round =>
          clear R7
          obtain ⟨j, F, m, hj, rfl, rfl, hR⟩ := hrel
          have R := Lib.hid hR
          clear hR
          by_cases hj3 : j < 3
          · have hj4 : (j : Int) < 3 := by omega
            obtain ⟨st, fi, ht⟩ := R.out.tells
            have OP := Lib.hid (popen_any wr d F m 30 st fi C R.out.disk (by omega) (by rw [R.out.len]; omega) R.out.up R.out.wait kC.out.2 (by rw [R.out.len]; exact ht))
            clear ht
            go_wp2_with fail
            refine OP.out.mono ?_
            rintro e w8 ⟨Q, rfl, hO⟩
            have O8 := Lib.hid hO
            have H8 := Lib.hid (hold_of R.out hO)
            have DN := l_done w w8 Q.p d 30 30 _ C Q H8.out
            rw [← HN.out] at DN
            have DN := Lib.hid DN
            have nn : (N != N) = false := ne_self _
            clear hO OP
            go_wp2_with fail
            refine DN.out.mono ?_
            rintro e w9 ⟨rfl, q, hw9⟩
            have B9 : Hid (Below w8.heap.size w8 w9) := by rw [hw9]; exact punder_drewN _ _
            have BK := Lib.hid (pblocks_any w w9 Q.p d 30 30 C Q (H8.out.under B9.out))
            clear hw9 DN
            go_wp2_with fail
            refine BK.out.mono ?_
            rintro e w10 ⟨v2, rfl, hr10, hp10, ho10⟩
            obtain ⟨A2, c2, rfl⟩ := pslice hr10
            have R10 : Hid (Rest w w10 d Q.F Q.m C (.slice A1 30 c1) B) := R.out.opened O8.out B9.out hp10 ho10
            have V10 := Lib.hid hr10
            obtain ⟨D, hD⟩ : ∃ D, D = w9.heap.size := ⟨_, rfl⟩
            rw [← hD] at V10
            clear hr10 hp10 ho10 BK B9 O8 H8 R hD nn
            go_wp2_with fail
            go_loopw [18, 19] (fun sv bv wr => ∃ k : Nat, k ≤ 30 ∧ bv = .int .i64 (k : Nat) ∧ sv = .bool true ∧ Rest w wr d Q.F Q.m C (.slice A1 30 c1) B ∧ wr.ownsRow D 9 1 (.slice A2 30 c2) 30 (allB C 30)) (fun _ bv _ => 30 - (intOf bv).toNat)
            case atStart => exact ⟨0, by omega, rfl, rfl, R10.out, V10.out⟩
            case round =>
              clear R10 V10
              obtain ⟨k, hk, rfl, rfl, hR, hV⟩ := hrel
              have R := Lib.hid hR
              have V := Lib.hid hV
              obtain ⟨g1, rfl, hg1⟩ := row_at hR.row
              obtain ⟨g2, rfl, hg2⟩ := row_at hV
              clear hR hV
              by_cases hk3 : k < 30
              · have hk4 : (k : Int) < 30 := by omega
                have hk0 : (0 : Int) ≤ (k : Int) := by omega
                have x1 := hg1 k hk3
                have x2 := hg2 k hk3
                obtain ⟨S, hS⟩ : ∃ S, S = strB (At C k) := ⟨_, rfl⟩
                rw [← hS] at x1 x2
                clear hS hg1 hg2
                have hlk : decide ((k : Int) < 30) = true := decide_eq_true hk4
                go_upto_region 28 with fail
                go_quiet (fail)
                go_wp2_with fail
                go_roundw
                case rel => exact ⟨k + 1, by omega, by go_num, rfl, R.out.under (punder_drewN _ _), (Only.of_below (F := []) (punder_drewN _ _)).row V.out (fun _ _ hx => by cases hx)⟩
                case measure => simp [intOf]; omega
              · obtain rfl : k = 30 := by omega
                clear hg1 hg2
                have CR := Lib.hid (crash_any wr d Q.F Q.m kA kn kc kl R.out.disk (HK.out.1.kept R.out.below) HK.out.2.1 (fun h0 x hx hm => by
                  have h1 := HK.out.2.2 h0 x hx
                  have h2 := R.out.new _ hm
                  omega) (by rw [R.out.wait]; show 0 ≤ _; omega))
                clear V
                go_wp2_with fail
                refine CR.out.mono ?_
                rintro e w12 ⟨rfl, F2, hD2, hO2, hG2⟩
                have R12 : Hid (Rest w w12 d F2 (Q.m.crash kl) C (.slice (some ⟨g1, 0, none⟩) 30 c1) B) := R.out.crashed kl hD2 hO2 hG2
                clear hD2 hO2 hG2 CR R
                go_wp2_with fail
                go_roundw
                case rel => exact ⟨j + 1, F2, _, by omega, by go_num, rfl, R12.out⟩
                case measure => simp [intOf]; omega
          · obtain rfl : j = 3 := by omega
            have RES : Hid (Below w.heap.size w wr) := R.out.below
            clear R
            go_wp2_with fail
            go_ret
            exact ⟨rfl, RES.out⟩
end Go.Proofs.YtaoldopkehbhkaaGreat.pagerTwice
