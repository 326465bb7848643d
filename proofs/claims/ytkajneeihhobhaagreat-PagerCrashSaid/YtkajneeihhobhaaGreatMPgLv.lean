/-
  PagerCrash: the contract of live.
-/
import Derived.Test.YtkajneeihhobhaaGreatMPgLf
namespace Go.Proofs.YtkajneeihhobhaaGreat
open Go.RowKit Go.Maps Wal Pgr

/-- The loop is over: the pager as it is, its disk dead or not. -/
structure Fin4 (w0 w : World) (y : Int) (p d reg N r : Nat) (C : List Com) (Ls : List (List (Nat × List Nat))) (P : PS) (tx v : Value) (vs : List Value) (K : List Nat) : Prop where
  pag : PagAt w P tx
  pe : P.p = p
  how : (y = 10 ∧ P.m.dead = true) ∨ (¬ y = 10 ∧ P.m.dead = false)
  le : LEnd w0 w d reg N r C Ls P.F P.m v vs K P.s.synced
def LiveRes (w0 : World) (d reg N r k0 : Nat) (e : Ending) (w' : World) : Prop :=
  ∃ C Ls F m v vs K least, e = .returned (.tuple #[.int .i64 ((List.length C : Nat) : Int), .int .i64 ((least : Nat) : Int), .bool true]) ∧ LEnd w0 w' d reg N r C Ls F m v vs K least ∧ C.length ≤ k0 + 61
theorem LEnd.only {w0 w w' : World} {d reg N r : Nat} {C : List Com} {Ls : List (List (Nat × List Nat))} {F H : List Nat} {m : Dsk.DM} {v : Value} {vs : List Value} {K : List Nat} {least : Nat} (h : LEnd w0 w d reg N r C Ls F m v vs K least) (k : Only H w w') (hH : ∀ x ∈ H, x ∉ F ∧ x ∉ K ∧ w0.heap.size ≤ x) : LEnd w0 w' d reg N r C Ls F m v vs K least :=
  ⟨h.disk.only k (fun x hx hm => (hH x hm).1 hx), h.len, h.waits, h.tells, h.rb.only k (fun x hx hm => (hH x hm).2.1 hx), h.far, h.sims, h.below.trans (k.below h.below.size (fun x hx => (hH x hx).2.2)), h.new⟩
theorem LEnd.under {w0 w w' : World} {d reg N r : Nat} {C : List Com} {Ls : List (List (Nat × List Nat))} {F : List Nat} {m : Dsk.DM} {v : Value} {vs : List Value} {K : List Nat} {least : Nat} (h : LEnd w0 w d reg N r C Ls F m v vs K least) (k : Below w.heap.size w w') : LEnd w0 w' d reg N r C Ls F m v vs K least := h.only (Only.of_below (F := []) k) (by simp)
theorem Btw.moved {w0 w w' : World} {cm : Bool} {p d reg N r : Nat} {C : List Com} {Ls : List (List (Nat × List Nat))} {P P' : PS} {v : Value} {vs : List Value} {K : List Nat} (h : Btw w0 w cm p d reg N r C Ls P v vs K) (k : PSide w0 w' cm p d reg N (.pointer none) C P') (ho : Only P.foot w w') (hf : ∀ x ∈ P'.foot, x ∈ P.foot ∨ w.heap.size ≤ x) : Btw w0 w' cm p d reg N r C Ls P' v vs K ∧ Grows w w' (bfoot P K) (bfoot P' K) := by
  refine ⟨⟨k, h.rb.only ho (fun x hx hm => h.far x hx hm), fun x hx hm => ?_, h.sims⟩, ho.mono (fun x hx => .inl (mem_bfoot.2 (.inl hx))), fun x hx => ?_⟩
  · rcases hf x hm with e | e
    · exact h.far x hx e
    · have := (h.rb.lt x hx).2; omega
  · rcases mem_bfoot.1 hx with e | e
    · exact (hf x e).imp (fun e => mem_bfoot.2 (.inl e)) id
    · exact .inl (mem_bfoot.2 (.inr e))
theorem comY_ne (L : List (Nat × List Nat)) (f : Bool) : ¬ comY L f = 10 := by
  unfold comY
  split
  · omega
  · split <;> omega
set_option maxRecDepth 100000 in
set_option maxHeartbeats 12800000 in
theorem live_any (w0 w : World) (p d reg N r : Nat) (C0 : List Com) (Ls0 : List (List (Nat × List Nat))) (P0 : PS) (v0 : Value) (vs0 : List Value) (K0 : List Nat) (x : PLife) (h : Btw w0 w false p d reg N r C0 Ls0 P0 v0 vs0 K0) (hx : PLifeGood w0 x) (hC0 : C0.length ≤ 10000) (hr : 2 ≤ reg ∧ reg ≤ 25 ∧ N ≤ 24) :
    Calls Tryz.prog 30 #[.pointer (some ⟨d, 0, none⟩), .pointer (some ⟨p, 0, none⟩), .pointer (some ⟨r, 0, none⟩), .agg #[.slice x.A x.n x.c, .int .u8 (x.fuel : Int), .slice x.kA x.kn x.kc, .slice x.aA x.an x.ac]] w (LiveRes w0 d reg N r C0.length) := by
  have XG := Lib.hid hx
  have NR := Lib.hid hr
  have HC0 := Lib.hid hC0
  have H1 : Hid (Held (w.alloc (.cells #[.slice x.A x.n x.c, .int .u8 (x.fuel : Int), .slice x.kA x.kn x.kc, .slice x.aA x.an x.ac] 67)) w.heap.size 67 #[.slice x.A x.n x.c, .int .u8 (x.fuel : Int), .slice x.kA x.kn x.kc, .slice x.aA x.an x.ac]) := Held.new w _ _ rfl
  have B1 : Hid (Btw w0 (w.alloc (.cells #[.slice x.A x.n x.c, .int .u8 (x.fuel : Int), .slice x.kA x.kn x.kc, .slice x.aA x.an x.ac] 67)) false p d reg N r C0 Ls0 P0 v0 vs0 K0) := ⟨h.ps.under ((Below.refl _ _).alloc (Nat.le_refl _) _), h.rb.under ((Below.refl _ _).alloc (Nat.le_refl _) _), h.far, h.sims⟩
  have F1 : Hid (w.heap.size ∉ bfoot P0 K0) := fun hm => by
    rcases mem_bfoot.1 hm with e | e
    · have := h.ps.lt _ e; omega
    · have := (h.rb.lt _ e).2; omega
  have xf : (x.fuel : Int) < 256 := by have := hx.f; omega
  have xf0 : (0 : Int) ≤ (x.fuel : Int) := by omega
  have xn : (x.n : Int) ≤ 9223372036854775807 := by have := hx.n; omega
  clear h hx hr hC0
  go_enter Tryz.func30, Tryz.ntmps30
  go_upto_if 25 with fail
  generalize w.alloc (.cells #[.slice x.A x.n x.c, .int .u8 (x.fuel : Int), .slice x.kA x.kn x.kc, .slice x.aA x.an x.ac] 67) = w1 at *
  generalize w.heap.size = q7 at *
  have l1 : w1.cell? ⟨q7, 1, none⟩ = some (.int .u8 (x.fuel : Int)) := H1.out.cell 1
  go_cut [] (fun wc => ∃ P', Btw w0 wc false p d reg N r C0 Ls0 P' v0 vs0 K0 ∧ Held wc q7 67 #[.slice x.A x.n x.c, .int .u8 (x.fuel : Int), .slice x.kA x.kn x.kc, .slice x.aA x.an x.ac] ∧ q7 ∉ bfoot P' K0)
  case first =>
    by_cases hfu : x.fuel < 250
    · have hfu' : (x.fuel : Int) < 250 := by omega
      have FU := Lib.hid (s_fuel w0 w1 p d reg N _ C0 P0 x.fuel B1.out.ps XG.out.f)
      go_wp2_with fail
      refine FU.out.mono ?_
      rintro e w2 ⟨rfl, P', ps2, ho2, hf2⟩
      obtain ⟨b2, g2⟩ := B1.out.moved ps2 ho2 hf2
      have R2 := Lib.hid (And.intro b2 (g2.held H1.out F1.out))
      clear ps2 ho2 hf2 b2 g2 FU l1
      go_wp2_with fail
      go_meet
      case rel => exact ⟨_, R2.out.1, R2.out.2.1, R2.out.2.2⟩
    · have hfu' : ¬ (x.fuel : Int) < 250 := by omega
      go_wp2_with fail
      go_meet
      case rel => exact ⟨P0, B1.out, H1.out, F1.out⟩
  case rest =>
    obtain ⟨P', hb, hh, hf⟩ := hcut
    have B2 := Lib.hid hb
    have H2 : Hid (Held _ q7 67 #[.slice x.A x.n x.c, .int .u8 (x.fuel : Int), .slice x.kA x.kn x.kc, .slice x.aA x.an x.ac] ∧ q7 ∉ bfoot P' K0) := ⟨hh, hf⟩
    clear hb hh hf B1 H1 F1 l1
    obtain ⟨A0, c0, hv0⟩ := pslice B2.out.rb.puts.row
    have r2 : wc.cell? ⟨r, 2, none⟩ = some (.slice A0 C0.length c0) := by rw [B2.out.sims.len, ← hv0]; exact B2.out.rb.pg.cell 2
    have BG := Lib.hid (s_begin w0 wc false p d reg N C0 P' B2.out.ps)
    obtain ⟨m0, hm0⟩ : ∃ m0, m0 = C0.length := ⟨_, rfl⟩
    have HM0 := Lib.hid hm0
    rw [← hm0] at r2 HC0
    clear hm0 hv0
    go_wp2_with fail
    refine BG.out.mono ?_
    rintro e w3 ⟨t, tm, rfl, hpo, ht, htm, ho⟩
    have DU0 : Hid (Duo w0 (w3.alloc (.cells #[.pointer (some ⟨r, 0, none⟩), .slice none 0 0] 43)) false p d reg N t tm r w3.heap.size (fun _ => none) C0 [] Ls0 P' v0 (.slice none 0 0) vs0 K0 [w3.heap.size]) := duo_begin B2.out.ps B2.out.rb B2.out.far B2.out.sims hpo ht htm ho
    have H3 := Lib.hid ((grows_begin (K := K0) B2.out.ps.pin ht htm ho (.cells #[.pointer (some ⟨r, 0, none⟩), .slice none 0 0] 43)).held H2.out.1 H2.out.2)
    clear hpo ht htm ho BG B2 H2 r2
    go_wp2_with fail
    go_loopw [11, 12, 13, 14, 15] (fun mv tv ev wv iv wr => ∃ (i : Nat) (C : List Com) (Ls : List (List (Nat × List Nat))), i ≤ 60 ∧ iv = .int .i64 (i : Nat) ∧ mv = .int .i64 ((C.length : Nat) : Int) ∧ C.length ≤ m0 + i ∧
      ((ev = .int .i64 0 ∧ ∃ (t tm t2 : Nat) (g : Com) (L : List (Nat × List Nat)) (P : PS) (v vL : Value) (vs : List Value) (KR K2 : List Nat), tv = .pointer (some ⟨t, 0, none⟩) ∧ wv = .pointer (some ⟨t2, 0, none⟩) ∧ Duo w0 wr false p d reg N t tm r t2 g C L Ls P v vL vs KR K2 ∧ Held wr q7 67 #[.slice x.A x.n x.c, .int .u8 (x.fuel : Int), .slice x.kA x.kn x.kc, .slice x.aA x.an x.ac] ∧ q7 ∉ dfoot t tm P KR K2) ∨
       (∃ y : Int, ev = .int .i64 y ∧ ¬ y = 0 ∧ ∃ (P : PS) (tx v : Value) (vs : List Value) (KR : List Nat), Fin4 w0 wr y p d reg N r C Ls P tx v vs KR ∧ Held wr q7 67 #[.slice x.A x.n x.c, .int .u8 (x.fuel : Int), .slice x.kA x.kn x.kc, .slice x.aA x.an x.ac]))) (fun _ _ _ _ iv _ => 60 - (intOf iv).toNat)
    case atStart => exact ⟨0, C0, Ls0, by omega, rfl, by rw [← HM0.out], by rw [← HM0.out]; omega, .inl ⟨rfl, _, _, _, _, _, _, _, _, _, _, _, rfl, rfl, DU0.out, H3.out.1, H3.out.2⟩⟩
    case round =>
      clear DU0 H3
      obtain ⟨i, C, Ls, hi, rfl, rfl, hC, hmode⟩ := hrel
      have HC := Lib.hid hC
      have hi9 : (i : Int) ≤ 60 := by omega
      clear hC
      rcases hmode with ⟨rfl, t, tm, t2, g, L, P, v, vL, vs, KR, K2, rfl, rfl, hD, hH, hF⟩ | ⟨y, rfl, hy, P, tx, v, vs, KR, hFin, hH⟩
      · have DU := Lib.hid hD
        have H7 := Lib.hid hH
        have F7 := Lib.hid hF
        have l0 : wr.cell? ⟨q7, 0, none⟩ = some (.slice x.A x.n x.c) := H7.out.cell 0
        clear hD hH hF
        by_cases hlt : i < x.n ∧ i < 60
        · obtain ⟨hn, h60⟩ := hlt
          have hk1 : (i : Int) < (x.n : Int) := by omega
          have hk2 : (i : Int) < 60 := by omega
          have hk0 : (0 : Int) ≤ (i : Int) := by omega
          obtain ⟨bb, off, eA, hbw, hcl⟩ := XG.out.ops.2 (by omega)
          rw [eA] at l0
          have hcl := hcl i hn
          have x0 : wr.cell? ⟨bb, off + i * 3, none⟩ = some (.int .u8 ((x.l i).1 : Int)) := (DU.out.po.ps.below.cell (p := ⟨bb, off + i * 3, none⟩) hbw).trans hcl.1
          have x1 : wr.cell? ⟨bb, off + i * 3 + 1, none⟩ = some (.int .i64 (x.l i).2.1) := (DU.out.po.ps.below.cell (p := ⟨bb, off + i * 3 + 1, none⟩) hbw).trans hcl.2.1
          have x2 : wr.cell? ⟨bb, off + i * 3 + 2, none⟩ = some (.string (x.l i).2.2) := (DU.out.po.ps.below.cell (p := ⟨bb, off + i * 3 + 2, none⟩) hbw).trans hcl.2.2
          obtain ⟨y0, _, _, _⟩ := XG.out.ops.1 i hn
          obtain ⟨kd, hkd⟩ : ∃ kd, kd = (x.l i).1 := ⟨_, rfl⟩
          obtain ⟨z, hz⟩ : ∃ z, z = (x.l i).2.1 := ⟨_, rfl⟩
          obtain ⟨s, hs⟩ : ∃ s, s = (x.l i).2.2 := ⟨_, rfl⟩
          rw [← hkd] at y0 x0
          rw [← hz] at x1
          rw [← hs] at x2
          have K8 : Hid (kd < 256) := y0
          have kb : (kd : Int) < 256 := by omega
          have kb0 : (0 : Int) ≤ (kd : Int) := by omega
          have D8 := Lib.hid (DU.out.under ((Below.refl _ _).alloc (Nat.le_refl _) (.cells #[.int .u8 (kd : Int), .int .i64 z, .string s] 45)))
          have H8 : Hid (Held (wr.alloc (.cells #[.int .u8 (kd : Int), .int .i64 z, .string s] 45)) q7 67 #[.slice x.A x.n x.c, .int .u8 (x.fuel : Int), .slice x.kA x.kn x.kc, .slice x.aA x.an x.ac]) := H7.out.alloc _
          have OB := Lib.hid (Held.new wr 45 #[.int .u8 (kd : Int), .int .i64 z, .string s] rfl)
          have PIN : Hid (p ∈ dfoot t tm P KR K2) := mem_dfoot.2 (.inl (mem_pfoot.2 (.inr (.inr D8.out.po.ps.pin))))
          have LB : Hid (C.length ≤ 10060 ∧ Ls.length = C.length) := ⟨by have := HC.out; have := HC0.out; omega, D8.out.sims.len.symm⟩
          clear hkd hz hs hcl hbw y0 DU H7 eA
          go_upto_region 10 with fail
          generalize wr.alloc (.cells #[.int .u8 (kd : Int), .int .i64 z, .string s] 45) = w8 at *
          generalize wr.heap.size = q8 at *
          have o0 : w8.cell? ⟨q8, 0, none⟩ = some (.int .u8 (kd : Int)) := OB.out.cell 0
          clear x0 x1 x2 l0
          by_cases k0 : (kd : Int) % 6 = 0
          · have o1 : w8.cell? ⟨q8, 1, none⟩ = some (.int .i64 z) := OB.out.cell 1
            have o2 : w8.cell? ⟨q8, 2, none⟩ = some (.string s) := OB.out.cell 2
            have ST := Lib.hid (step_write w0 w8 false p d reg N t tm r t2 g C L Ls P v vL vs KR K2 kd z s D8.out k0 K8.out)
            clear D8
            go_wp2_with fail
            refine ST.out.mono ?_
            rintro e w9 ⟨g', L', vL', K', rfl, hD, hG⟩
            have D9 := Lib.hid (And.intro hD (hG.held H8.out F7.out))
            clear hD hG ST o0 o1 o2 OB
            go_wp2_with fail
            go_roundw
            case rel => exact ⟨i + 1, C, Ls, by omega, by go_num, rfl, by have := HC.out; omega, .inl ⟨rfl, _, _, _, _, _, _, _, _, _, _, _, rfl, rfl, D9.out.1, D9.out.2.1, D9.out.2.2⟩⟩
            case measure => simp [intOf]; omega
          · by_cases k1 : (kd : Int) % 6 = 1
            · have o1 : w8.cell? ⟨q8, 1, none⟩ = some (.int .i64 z) := OB.out.cell 1
              have o2 : w8.cell? ⟨q8, 2, none⟩ = some (.string s) := OB.out.cell 2
              have ST := Lib.hid (step_read w0 w8 false p d reg N t tm r t2 g C L Ls P v vL vs KR K2 kd z s D8.out k0 K8.out (by have := LB.out; omega))
              have PF : Hid (p ∈ dfoot t tm P KR K2) := mem_dfoot.2 (.inl (mem_pfoot.2 (.inr (.inr D8.out.po.ps.pin))))
              clear D8 k0
              go_wp2_with fail
              refine ST.out.mono ?_
              rintro e w9 ⟨rfl, hD, ho⟩
              have D9 := Lib.hid (And.intro hD (H8.out.only ho (fun hm => F7.out (by rw [List.mem_singleton.1 hm]; exact PF.out))))
              clear hD ho ST o0 o1 o2 OB
              go_wp2_with fail
              go_roundw
              case rel => exact ⟨i + 1, C, Ls, by omega, by go_num, rfl, by have := HC.out; omega, .inl ⟨rfl, _, _, _, _, _, _, _, _, _, _, _, rfl, rfl, D9.out.1, D9.out.2, F7.out⟩⟩
              case measure => simp [intOf]; omega
            · by_cases k23 : (kd : Int) % 6 = 2 ∨ (kd : Int) % 6 = 3
              · have DR := s_dirty w0 w8 false p d reg N t tm g C P D8.out.po
                rw [D8.out.sim.len] at DR
                obtain ⟨nL, hnL⟩ : ∃ nL, nL = L.length := ⟨_, rfl⟩
                have HNL := Lib.hid hnL
                rw [← hnL] at DR
                have nLi : (nL : Int) ≤ 4096 := by have := D8.out.few; omega
                have DR := Lib.hid DR
                have FC := f_commit w0 w8 false p d reg N t tm r t2 g C L Ls P v vL vs KR K2 D8.out (by have := LB.out; omega) (by have := NR.out; omega)
                have UC := fun w9 rb9 rt9 h9 => u_commit w0 w9 r t2 reg N L Ls v vL vs KR K2 rb9 rt9 h9 (by have := D8.out.few; omega) (by have := LB.out; omega)
                rw [LB.out.2] at UC
                obtain ⟨X, hX⟩ : ∃ X, X = comX C.length L (fitL reg L) := ⟨_, rfl⟩
                obtain ⟨Y, hY⟩ : ∃ Y, Y = comY L (fitL reg L) := ⟨_, rfl⟩
                have hY10 : ¬ Y = 10 := by rw [hY]; exact comY_ne _ _
                have hYd : decide (Y = 10) = false := decide_eq_false hY10
                rw [← hX, ← hY] at FC
                rw [← hX, ← hY] at UC
                have FC := Lib.hid FC
                clear hX hY hnL k0 k1
                have kk : (kd : Int) % 6 = 2 ∨ (kd : Int) % 6 = 3 := k23
                clear k23
                rcases kk with k2 | k2
                · go_wp2_with fail
                  refine DR.out.mono ?_
                  rintro e w' ⟨rfl, rfl⟩
                  clear DR o0 OB
                  go_wp2_with fail
                  refine FC.out.mono ?_
                  rintro e w9 (⟨rfl, P1, ps1, te1, ho1, hf1⟩ | ⟨rfl, ⟨hl0, hfit⟩, hdied⟩)
                  · obtain ⟨rb9, rt9⟩ := D8.out.over' ho1
                    have UC := Lib.hid (UC w9 rb9 rt9 ps1.below.size)
                    have Q1 : Hid (PSide w0 w9 false p d reg N (.pointer none) (comS C g L.length (fitL reg L)) P1 ∧ Only (t :: P.foot) w8 w9 ∧ ∀ x ∈ P1.foot, x ∈ P.foot ∨ w8.heap.size ≤ x) := ⟨ps1, ho1, hf1⟩
                    clear ps1 te1 ho1 hf1 rb9 rt9 FC
                    go_wp2_with fail
                    refine UC.out.mono ?_
                    rintro e w10 ⟨rfl, v', vs', K', rb10, ho10, hk10⟩
                    have b10 := D8.out.committed' (fitL reg L) Q1.out.1 Q1.out.2.2 rb10 ho10 hk10
                    have g10 := (grows_commit (tm := tm) (K2 := K2) Q1.out.2.1 Q1.out.2.2 ho10 hk10).held H8.out F7.out
                    have CL : Hid ((comS C g L.length (fitL reg L)).length ≤ m0 + i + 1) := by
                      have h1 := comS_len C g L.length (fitL reg L)
                      have h2 := HC.out
                      show _ ≤ _
                      omega
                    obtain ⟨C', hC'⟩ : ∃ C', C' = comS C g L.length (fitL reg L) := ⟨_, rfl⟩
                    obtain ⟨Ls', hLs'⟩ : ∃ Ls', Ls' = comS Ls L L.length (fitL reg L) := ⟨_, rfl⟩
                    rw [← hC', ← hLs'] at b10
                    rw [← hC'] at CL
                    have B10 := Lib.hid b10
                    have G10 := Lib.hid g10
                    obtain ⟨A9, c9, hv9⟩ := pslice b10.rb.puts.row
                    have x2 : w10.cell? ⟨r, 2, none⟩ = some (.slice A9 C'.length c9) := by rw [b10.sims.len, ← hv9]; exact b10.rb.pg.cell 2
                    have BG := Lib.hid (s_begin w0 w10 false p d reg N C' P1 b10.ps)
                    obtain ⟨m9, hm9⟩ : ∃ m9, m9 = C'.length := ⟨_, rfl⟩
                    have HM9 := Lib.hid hm9
                    rw [← hm9] at x2
                    clear b10 g10 rb10 ho10 hk10 UC Q1 D8 hC' hLs' hm9 hv9 H8 F7
                    go_wp2_with fail
                    refine BG.out.mono ?_
                    rintro e w11 ⟨t', tm', rfl, hpo, ht, htm, ho⟩
                    have DU : Hid (Duo w0 (w11.alloc (.cells #[.pointer (some ⟨r, 0, none⟩), .slice none 0 0] 43)) false p d reg N t' tm' r w11.heap.size (fun _ => none) C' [] Ls' P1 v' (.slice none 0 0) vs' K' [w11.heap.size]) := duo_begin B10.out.ps B10.out.rb B10.out.far B10.out.sims hpo ht htm ho
                    have H11 := Lib.hid ((grows_begin (K := K') B10.out.ps.pin ht htm ho (.cells #[.pointer (some ⟨r, 0, none⟩), .slice none 0 0] 43)).held G10.out.1 G10.out.2)
                    clear hpo ht htm ho BG B10 G10 x2
                    go_wp2_with fail
                    go_roundw
                    case rel => exact ⟨i + 1, C', Ls', by omega, by go_num, by rw [HM9.out], by have := CL.out; omega, .inl ⟨rfl, _, _, _, _, _, _, _, _, _, _, _, rfl, rfl, DU.out, H11.out.1, H11.out.2⟩⟩
                    case measure => simp [intOf]; omega
                  · have hn0 : (0 : Int) < (nL : Int) := by have := HNL.out; omega
                    obtain ⟨_, _, hm1, _⟩ := id hdied
                    have ho1 : Only (t :: P.foot) w8 w9 := hm1.only.mono (fun _ hx => .inl (List.mem_cons_of_mem _ hx))
                    obtain ⟨rb9, rt9⟩ := D8.out.over' ho1
                    have UC := Lib.hid (UC w9 rb9 rt9 (Nat.le_trans D8.out.po.ps.below.size ho1.size))
                    have DD9 : Hid (Died w8 w9 P (.pointer (some ⟨t, 0, none⟩)) C) := hdied
                    have FT : Hid (L.length ≠ 0 ∧ fitL reg L = true) := ⟨hl0, hfit⟩
                    clear hdied hm1 ho1 rb9 rt9 FC hl0 hfit
                    go_wp2_with fail
                    refine UC.out.mono ?_
                    rintro e w10 ⟨rfl, v', vs', K', rb10, ho10, hk10⟩
                    have eS : comS Ls L L.length (fitL reg L) = Ls ++ [L] := if_pos FT.out
                    rw [eS] at rb10
                    obtain ⟨P1, pa1, pe1, _, md1, le1, _⟩ := died_lives (C' := C ++ [g]) D8.out.po.ps DD9.out (by simp) (by simp) rb10 (fun x hx => by
                      rcases hk10 x hx with e1 | e1 | e1
                      · exact ⟨fun hm => D8.out.far x (.inl e1) (mem_pfoot.2 (.inr (.inr hm))), .inl (D8.out.rb.lt x e1).2⟩
                      · exact ⟨fun hm => D8.out.far x (.inr e1) (mem_pfoot.2 (.inr (.inr hm))), .inl (D8.out.rt.lt x e1).2⟩
                      · refine ⟨fun hm => ?_, .inr e1⟩
                        have h1 := D8.out.po.ps.lt x hm
                        obtain ⟨_, _, hm1, _⟩ := id DD9.out
                        have := hm1.only.size
                        omega) (D8.out.sims.push D8.out.sim) ho10 (fun x hx => ⟨fun hm => D8.out.far x (.inl hx) (mem_pfoot.2 (.inr (.inr hm))), (D8.out.rb.lt x hx).2, (D8.out.rb.lt x hx).1⟩)
                    obtain ⟨A9, c9, hv9⟩ := pslice rb10.puts.row
                    have x2 : w10.cell? ⟨r, 2, none⟩ = some (.slice A9 (Ls ++ [L]).length c9) := by rw [← hv9]; exact rb10.pg.cell 2
                    have SY := psynced_any w10.drew P1 _ (pa1.under (Below.refl _ _).drew)
                    rw [pe1] at SY
                    have DD := dead_any w10.drew d P1.F P1.m (le1.under (Below.refl _ _).drew).disk
                    rw [md1] at DD
                    obtain ⟨sy, hsy⟩ : ∃ sy, sy = P1.s.synced := ⟨_, rfl⟩
                    rw [← hsy] at SY le1
                    have RES0 : LiveRes w0 d reg N r C0.length (.returned (.tuple #[.int .i64 (((C ++ [g]).length : Nat) : Int), .int .i64 ((sy : Nat) : Int), .bool true])) w10.drew := ⟨C ++ [g], _, P1.F, P1.m, v', vs', K', sy, rfl, le1.under (Below.refl _ _).drew, by have := HC.out; have := HM0.out; rw [List.length_append]; show C.length + 1 ≤ _; omega⟩
                    have e3 : (Ls ++ [L]).length = C.length + 1 := by rw [List.length_append, LB.out.2]; rfl
                    have e4 : (C ++ [g]).length = C.length + 1 := by simp
                    rw [e3] at x2
                    rw [e4] at RES0
                    have mi : ((C.length : Nat) : Int) ≤ 20000 := by have := LB.out; omega
                    obtain ⟨m9, hm9⟩ : ∃ m9, m9 = C.length := ⟨_, rfl⟩
                    rw [← hm9] at x2 RES0 mi ⊢
                    have RES := Lib.hid RES0
                    have SY := Lib.hid SY
                    have DD := Lib.hid DD
                    clear rb10 ho10 hk10 eS pa1 pe1 md1 le1 hv9 hsy RES0 e3 e4 hm9 UC DD9 D8 H8 F7
                    go_upto_region 24 with fail
                    refine wp_region_noPanic ?_
                    refine wp_region_held_drew (S := fun w' => w'.cell? ⟨r, 2, none⟩ = some (.slice A9 (m9 + 1) c9)) (by kernel_rfl) x2 (fun hHeld => ?_)
                    refine take_ (i := 0) (v := ?_) 111 rfl rfl (by kernel_rfl) (by kernel_rfl) (by kernel_rfl) (fun _ _ _ h => h) (Or.inl ⟨by rfl, ?_⟩) (by assumption) ?_
                    rotate_left
                    · (intro wS hSw; (try dsimp only at hSw); go_simp; try with_reducible rfl)
                    simp only [Act.put, List.setIfInBounds_toArray, List.set_cons_zero, List.set_cons_succ]
                    refine take_ (i := 1) (v := ?_) 112 rfl rfl (by kernel_rfl) (by kernel_rfl) (by kernel_rfl) (fun _ _ _ h => h) (Or.inl ⟨by rfl, ?_⟩) (by assumption) ?_
                    rotate_left
                    · (intro wS hSw; (try dsimp only at hSw); go_simp; try with_reducible rfl)
                    simp only [Act.put, List.setIfInBounds_toArray, List.set_cons_zero, List.set_cons_succ]
                    refine take_ (i := 2) (v := ?_) 113 rfl rfl (by kernel_rfl) (by kernel_rfl) (by kernel_rfl) (fun _ _ _ h => h) (Or.inl ⟨by rfl, ?_⟩) (by assumption) ?_
                    rotate_left
                    · (intro wS hSw; (try dsimp only at hSw); go_simp; try with_reducible rfl)
                    simp only [Act.put, List.setIfInBounds_toArray, List.set_cons_zero, List.set_cons_succ]
                    refine take_ (i := 4) (v := ?_) 115 rfl rfl (by kernel_rfl) (by kernel_rfl) (by kernel_rfl) (fun _ _ _ h => h) (Or.inl ⟨by rfl, ?_⟩) (by assumption) ?_
                    rotate_left
                    · (intro wS hSw; (try dsimp only at hSw); go_simp; try with_reducible rfl)
                    simp only [Act.put, List.setIfInBounds_toArray, List.set_cons_zero, List.set_cons_succ]
                    refine one_ (i := 3) _ (by kernel_rfl) rfl (fun K hK => ?_)
                    go_simp
                    refine SY.out.mono ?_
                    rintro e w' ⟨rfl, rfl⟩
                    go_wp2_with fail
                    refine hK.out _ _ x2 (fun hHeld => ?_)
                    clear hK K
                    refine one_ (i := 5) _ (by kernel_rfl) rfl (fun K hK => ?_)
                    go_simp
                    refine DD.out.mono ?_
                    rintro e w' ⟨rfl, rfl⟩
                    go_wp2_with fail
                    refine hK.out _ _ x2 (fun hHeld => ?_)
                    clear hK K
                    refine take_ (i := 6) (v := ?_) 117 rfl rfl (by kernel_rfl) (by kernel_rfl) (by kernel_rfl) (fun _ _ _ h => h) (Or.inl ⟨by rfl, ?_⟩) (by assumption) ?_
                    rotate_left
                    · (intro wS hSw; (try dsimp only at hSw); go_simp; try with_reducible rfl)
                    simp only [Act.put, List.setIfInBounds_toArray, List.set_cons_zero, List.set_cons_succ]
                    refine take_ (i := 7) (v := ?_) 118 rfl rfl (by kernel_rfl) (by kernel_rfl) (by kernel_rfl) (fun _ _ _ h => h) (Or.inl ⟨by rfl, ?_⟩) (by assumption) ?_
                    rotate_left
                    · (intro wS hSw; (try dsimp only at hSw); go_simp; try with_reducible rfl)
                    simp only [Act.put, List.setIfInBounds_toArray, List.set_cons_zero, List.set_cons_succ]
                    refine take_ (i := 8) (v := ?_) 119 rfl rfl (by kernel_rfl) (by kernel_rfl) (by kernel_rfl) (fun _ _ _ h => h) (Or.inl ⟨by rfl, ?_⟩) (by assumption) ?_
                    rotate_left
                    · (intro wS hSw; (try dsimp only at hSw); go_simp; try with_reducible rfl)
                    simp only [Act.put, List.setIfInBounds_toArray, List.set_cons_zero, List.set_cons_succ]
                    refine take_ (i := 9) (v := ?_) 120 rfl rfl (by kernel_rfl) (by kernel_rfl) (by kernel_rfl) (fun _ _ _ h => h) (Or.inl ⟨by rfl, ?_⟩) (by assumption) ?_
                    rotate_left
                    · (intro wS hSw; (try dsimp only at hSw); go_simp; try with_reducible rfl)
                    simp only [Act.put, List.setIfInBounds_toArray, List.set_cons_zero, List.set_cons_succ]
                    refine take_ (i := 10) (v := ?_) 121 rfl rfl (by kernel_rfl) (by kernel_rfl) (by kernel_rfl) (fun _ _ _ h => h) (Or.inl ⟨by rfl, ?_⟩) (by assumption) ?_
                    rotate_left
                    · (intro wS hSw; (try dsimp only at hSw); go_simp; try with_reducible rfl)
                    simp only [Act.put, List.setIfInBounds_toArray, List.set_cons_zero, List.set_cons_succ]
                    refine take_ (i := 11) (v := ?_) 122 rfl rfl (by kernel_rfl) (by kernel_rfl) (by kernel_rfl) (fun _ _ _ h => h) (Or.inl ⟨by rfl, ?_⟩) (by assumption) ?_
                    rotate_left
                    · (intro wS hSw; (try dsimp only at hSw); go_simp; try with_reducible rfl)
                    simp only [Act.put, List.setIfInBounds_toArray, List.set_cons_zero, List.set_cons_succ]
                    refine take_ (i := 12) (v := ?_) 123 rfl rfl (by kernel_rfl) (by kernel_rfl) (by kernel_rfl) (fun _ _ _ h => h) (Or.inl ⟨by rfl, ?_⟩) (by assumption) ?_
                    rotate_left
                    · (intro wS hSw; (try dsimp only at hSw); go_simp; try with_reducible rfl)
                    simp only [Act.put, List.setIfInBounds_toArray, List.set_cons_zero, List.set_cons_succ]
                    refine take_ (i := 13) (v := ?_) 124 rfl rfl (by kernel_rfl) (by kernel_rfl) (by kernel_rfl) (fun _ _ _ h => h) (Or.inl ⟨by rfl, ?_⟩) (by assumption) ?_
                    rotate_left
                    · (intro wS hSw; (try dsimp only at hSw); go_simp; try with_reducible rfl)
                    simp only [Act.put, List.setIfInBounds_toArray, List.set_cons_zero, List.set_cons_succ]
                    refine take_ (i := 14) (v := ?_) 125 rfl rfl (by kernel_rfl) (by kernel_rfl) (by kernel_rfl) (fun _ _ _ h => h) (Or.inl ⟨by rfl, ?_⟩) (by assumption) ?_
                    rotate_left
                    · (intro wS hSw; (try dsimp only at hSw); go_simp; try with_reducible rfl)
                    simp only [Act.put, List.setIfInBounds_toArray, List.set_cons_zero, List.set_cons_succ]
                    refine take_ (i := 15) (v := ?_) 126 rfl rfl (by kernel_rfl) (by kernel_rfl) (by kernel_rfl) (fun _ _ _ h => h) (Or.inl ⟨by rfl, ?_⟩) (by assumption) ?_
                    rotate_left
                    · (intro wS hSw; (try dsimp only at hSw); go_simp; try with_reducible rfl)
                    simp only [Act.put, List.setIfInBounds_toArray, List.set_cons_zero, List.set_cons_succ]
                    refine take_ (i := 16) (v := ?_) 8 rfl rfl (by kernel_rfl) (by kernel_rfl) (by kernel_rfl) (fun _ _ _ h => h) (Or.inl ⟨by rfl, ?_⟩) (by assumption) ?_
                    rotate_left
                    · (intro wS hSw; (try dsimp only at hSw); go_simp; try with_reducible rfl)
                    simp only [Act.put, List.setIfInBounds_toArray, List.set_cons_zero, List.set_cons_succ]
                    refine take_ (i := 17) (v := ?_) 9 rfl rfl (by kernel_rfl) (by kernel_rfl) (by kernel_rfl) (fun _ _ _ h => h) (Or.inl ⟨by rfl, ?_⟩) (by assumption) ?_
                    rotate_left
                    · (intro wS hSw; (try dsimp only at hSw); go_simp; try with_reducible rfl)
                    simp only [Act.put, List.setIfInBounds_toArray, List.set_cons_zero, List.set_cons_succ]
                    refine take_ (i := 18) (v := ?_) 10 rfl rfl (by kernel_rfl) (by kernel_rfl) (by kernel_rfl) (fun _ _ _ h => h) (Or.inl ⟨by rfl, ?_⟩) (by assumption) ?_
                    rotate_left
                    · (intro wS hSw; (try dsimp only at hSw); go_simp; try with_reducible rfl)
                    simp only [Act.put, List.setIfInBounds_toArray, List.set_cons_zero, List.set_cons_succ]
                    refine wpAnyH_done (by kernel_rfl) ?_ _
                    refine NoPanic.normal ?_
                    clear x2 hHeld
                    go_wp2_with fail
                    go_ret3
                    have hwr : IntKind.i64.wrap ((m9 : Int) + 1) = ((m9 + 1 : Nat) : Int) := by
                      rw [IntKind.wrap_i64]; omega
                    have hbe : ((m9 : Int) + 1 == IntKind.i64.wrap ((m9 : Int) + 1)) = true := by
                      rw [hwr]
                      simp
                    show LiveRes w0 d reg N r C0.length (.returned (.tuple #[.int .i64 (IntKind.i64.wrap ((m9 : Int) + 1)), .int .i64 (sy : Int), .bool ((m9 : Int) + 1 == IntKind.i64.wrap ((m9 : Int) + 1))])) _
                    rw [hbe, hwr]
                    exact RES.out
                · go_wp2_with fail
                  refine DR.out.mono ?_
                  rintro e w' ⟨rfl, rfl⟩
                  clear DR o0 OB
                  go_wp2_with fail
                  refine FC.out.mono ?_
                  rintro e w9 (⟨rfl, P1, ps1, te1, ho1, hf1⟩ | ⟨rfl, ⟨hl0, hfit⟩, hdied⟩)
                  · obtain ⟨rb9, rt9⟩ := D8.out.over' ho1
                    have UC := Lib.hid (UC w9 rb9 rt9 ps1.below.size)
                    have Q1 : Hid (PSide w0 w9 false p d reg N (.pointer none) (comS C g L.length (fitL reg L)) P1 ∧ Only (t :: P.foot) w8 w9 ∧ ∀ x ∈ P1.foot, x ∈ P.foot ∨ w8.heap.size ≤ x) := ⟨ps1, ho1, hf1⟩
                    clear ps1 te1 ho1 hf1 rb9 rt9 FC
                    go_wp2_with fail
                    refine UC.out.mono ?_
                    rintro e w10 ⟨rfl, v', vs', K', rb10, ho10, hk10⟩
                    have b10 := D8.out.committed' (fitL reg L) Q1.out.1 Q1.out.2.2 rb10 ho10 hk10
                    have g10 := (grows_commit (tm := tm) (K2 := K2) Q1.out.2.1 Q1.out.2.2 ho10 hk10).held H8.out F7.out
                    have CL : Hid ((comS C g L.length (fitL reg L)).length ≤ m0 + i + 1) := by
                      have h1 := comS_len C g L.length (fitL reg L)
                      have h2 := HC.out
                      show _ ≤ _
                      omega
                    obtain ⟨C', hC'⟩ : ∃ C', C' = comS C g L.length (fitL reg L) := ⟨_, rfl⟩
                    obtain ⟨Ls', hLs'⟩ : ∃ Ls', Ls' = comS Ls L L.length (fitL reg L) := ⟨_, rfl⟩
                    rw [← hC', ← hLs'] at b10
                    rw [← hC'] at CL
                    have B10 := Lib.hid b10
                    have G10 := Lib.hid g10
                    obtain ⟨A9, c9, hv9⟩ := pslice b10.rb.puts.row
                    have x2 : w10.cell? ⟨r, 2, none⟩ = some (.slice A9 C'.length c9) := by rw [b10.sims.len, ← hv9]; exact b10.rb.pg.cell 2
                    have BG := Lib.hid (s_begin w0 w10 false p d reg N C' P1 b10.ps)
                    obtain ⟨m9, hm9⟩ : ∃ m9, m9 = C'.length := ⟨_, rfl⟩
                    have HM9 := Lib.hid hm9
                    rw [← hm9] at x2
                    clear b10 g10 rb10 ho10 hk10 UC Q1 D8 hC' hLs' hm9 hv9 H8 F7
                    go_wp2_with fail
                    refine BG.out.mono ?_
                    rintro e w11 ⟨t', tm', rfl, hpo, ht, htm, ho⟩
                    have DU : Hid (Duo w0 (w11.alloc (.cells #[.pointer (some ⟨r, 0, none⟩), .slice none 0 0] 43)) false p d reg N t' tm' r w11.heap.size (fun _ => none) C' [] Ls' P1 v' (.slice none 0 0) vs' K' [w11.heap.size]) := duo_begin B10.out.ps B10.out.rb B10.out.far B10.out.sims hpo ht htm ho
                    have H11 := Lib.hid ((grows_begin (K := K') B10.out.ps.pin ht htm ho (.cells #[.pointer (some ⟨r, 0, none⟩), .slice none 0 0] 43)).held G10.out.1 G10.out.2)
                    clear hpo ht htm ho BG B10 G10 x2
                    go_wp2_with fail
                    go_roundw
                    case rel => exact ⟨i + 1, C', Ls', by omega, by go_num, by rw [HM9.out], by have := CL.out; omega, .inl ⟨rfl, _, _, _, _, _, _, _, _, _, _, _, rfl, rfl, DU.out, H11.out.1, H11.out.2⟩⟩
                    case measure => simp [intOf]; omega
                  · have hn0 : (0 : Int) < (nL : Int) := by have := HNL.out; omega
                    obtain ⟨_, _, hm1, _⟩ := id hdied
                    have ho1 : Only (t :: P.foot) w8 w9 := hm1.only.mono (fun _ hx => .inl (List.mem_cons_of_mem _ hx))
                    obtain ⟨rb9, rt9⟩ := D8.out.over' ho1
                    have UC := Lib.hid (UC w9 rb9 rt9 (Nat.le_trans D8.out.po.ps.below.size ho1.size))
                    have DD9 : Hid (Died w8 w9 P (.pointer (some ⟨t, 0, none⟩)) C) := hdied
                    have FT : Hid (L.length ≠ 0 ∧ fitL reg L = true) := ⟨hl0, hfit⟩
                    clear hdied hm1 ho1 rb9 rt9 FC hl0 hfit
                    go_wp2_with fail
                    refine UC.out.mono ?_
                    rintro e w10 ⟨rfl, v', vs', K', rb10, ho10, hk10⟩
                    have eS : comS Ls L L.length (fitL reg L) = Ls ++ [L] := if_pos FT.out
                    rw [eS] at rb10
                    obtain ⟨P1, pa1, pe1, _, md1, le1, _⟩ := died_lives (C' := C ++ [g]) D8.out.po.ps DD9.out (by simp) (by simp) rb10 (fun x hx => by
                      rcases hk10 x hx with e1 | e1 | e1
                      · exact ⟨fun hm => D8.out.far x (.inl e1) (mem_pfoot.2 (.inr (.inr hm))), .inl (D8.out.rb.lt x e1).2⟩
                      · exact ⟨fun hm => D8.out.far x (.inr e1) (mem_pfoot.2 (.inr (.inr hm))), .inl (D8.out.rt.lt x e1).2⟩
                      · refine ⟨fun hm => ?_, .inr e1⟩
                        have h1 := D8.out.po.ps.lt x hm
                        obtain ⟨_, _, hm1, _⟩ := id DD9.out
                        have := hm1.only.size
                        omega) (D8.out.sims.push D8.out.sim) ho10 (fun x hx => ⟨fun hm => D8.out.far x (.inl hx) (mem_pfoot.2 (.inr (.inr hm))), (D8.out.rb.lt x hx).2, (D8.out.rb.lt x hx).1⟩)
                    obtain ⟨A9, c9, hv9⟩ := pslice rb10.puts.row
                    have x2 : w10.cell? ⟨r, 2, none⟩ = some (.slice A9 (Ls ++ [L]).length c9) := by rw [← hv9]; exact rb10.pg.cell 2
                    have SY := psynced_any w10.drew P1 _ (pa1.under (Below.refl _ _).drew)
                    rw [pe1] at SY
                    have DD := dead_any w10.drew d P1.F P1.m (le1.under (Below.refl _ _).drew).disk
                    rw [md1] at DD
                    obtain ⟨sy, hsy⟩ : ∃ sy, sy = P1.s.synced := ⟨_, rfl⟩
                    rw [← hsy] at SY le1
                    have RES0 : LiveRes w0 d reg N r C0.length (.returned (.tuple #[.int .i64 (((C ++ [g]).length : Nat) : Int), .int .i64 ((sy : Nat) : Int), .bool true])) w10.drew := ⟨C ++ [g], _, P1.F, P1.m, v', vs', K', sy, rfl, le1.under (Below.refl _ _).drew, by have := HC.out; have := HM0.out; rw [List.length_append]; show C.length + 1 ≤ _; omega⟩
                    have e3 : (Ls ++ [L]).length = C.length + 1 := by rw [List.length_append, LB.out.2]; rfl
                    have e4 : (C ++ [g]).length = C.length + 1 := by simp
                    rw [e3] at x2
                    rw [e4] at RES0
                    have mi : ((C.length : Nat) : Int) ≤ 20000 := by have := LB.out; omega
                    obtain ⟨m9, hm9⟩ : ∃ m9, m9 = C.length := ⟨_, rfl⟩
                    rw [← hm9] at x2 RES0 mi ⊢
                    have RES := Lib.hid RES0
                    have SY := Lib.hid SY
                    have DD := Lib.hid DD
                    clear rb10 ho10 hk10 eS pa1 pe1 md1 le1 hv9 hsy RES0 e3 e4 hm9 UC DD9 D8 H8 F7
                    go_upto_region 24 with fail
                    refine wp_region_noPanic ?_
                    refine wp_region_held_drew (S := fun w' => w'.cell? ⟨r, 2, none⟩ = some (.slice A9 (m9 + 1) c9)) (by kernel_rfl) x2 (fun hHeld => ?_)
                    refine take_ (i := 0) (v := ?_) 111 rfl rfl (by kernel_rfl) (by kernel_rfl) (by kernel_rfl) (fun _ _ _ h => h) (Or.inl ⟨by rfl, ?_⟩) (by assumption) ?_
                    rotate_left
                    · (intro wS hSw; (try dsimp only at hSw); go_simp; try with_reducible rfl)
                    simp only [Act.put, List.setIfInBounds_toArray, List.set_cons_zero, List.set_cons_succ]
                    refine take_ (i := 1) (v := ?_) 112 rfl rfl (by kernel_rfl) (by kernel_rfl) (by kernel_rfl) (fun _ _ _ h => h) (Or.inl ⟨by rfl, ?_⟩) (by assumption) ?_
                    rotate_left
                    · (intro wS hSw; (try dsimp only at hSw); go_simp; try with_reducible rfl)
                    simp only [Act.put, List.setIfInBounds_toArray, List.set_cons_zero, List.set_cons_succ]
                    refine take_ (i := 2) (v := ?_) 113 rfl rfl (by kernel_rfl) (by kernel_rfl) (by kernel_rfl) (fun _ _ _ h => h) (Or.inl ⟨by rfl, ?_⟩) (by assumption) ?_
                    rotate_left
                    · (intro wS hSw; (try dsimp only at hSw); go_simp; try with_reducible rfl)
                    simp only [Act.put, List.setIfInBounds_toArray, List.set_cons_zero, List.set_cons_succ]
                    refine take_ (i := 4) (v := ?_) 115 rfl rfl (by kernel_rfl) (by kernel_rfl) (by kernel_rfl) (fun _ _ _ h => h) (Or.inl ⟨by rfl, ?_⟩) (by assumption) ?_
                    rotate_left
                    · (intro wS hSw; (try dsimp only at hSw); go_simp; try with_reducible rfl)
                    simp only [Act.put, List.setIfInBounds_toArray, List.set_cons_zero, List.set_cons_succ]
                    refine one_ (i := 3) _ (by kernel_rfl) rfl (fun K hK => ?_)
                    go_simp
                    refine SY.out.mono ?_
                    rintro e w' ⟨rfl, rfl⟩
                    go_wp2_with fail
                    refine hK.out _ _ x2 (fun hHeld => ?_)
                    clear hK K
                    refine one_ (i := 5) _ (by kernel_rfl) rfl (fun K hK => ?_)
                    go_simp
                    refine DD.out.mono ?_
                    rintro e w' ⟨rfl, rfl⟩
                    go_wp2_with fail
                    refine hK.out _ _ x2 (fun hHeld => ?_)
                    clear hK K
                    refine take_ (i := 6) (v := ?_) 117 rfl rfl (by kernel_rfl) (by kernel_rfl) (by kernel_rfl) (fun _ _ _ h => h) (Or.inl ⟨by rfl, ?_⟩) (by assumption) ?_
                    rotate_left
                    · (intro wS hSw; (try dsimp only at hSw); go_simp; try with_reducible rfl)
                    simp only [Act.put, List.setIfInBounds_toArray, List.set_cons_zero, List.set_cons_succ]
                    refine take_ (i := 7) (v := ?_) 118 rfl rfl (by kernel_rfl) (by kernel_rfl) (by kernel_rfl) (fun _ _ _ h => h) (Or.inl ⟨by rfl, ?_⟩) (by assumption) ?_
                    rotate_left
                    · (intro wS hSw; (try dsimp only at hSw); go_simp; try with_reducible rfl)
                    simp only [Act.put, List.setIfInBounds_toArray, List.set_cons_zero, List.set_cons_succ]
                    refine take_ (i := 8) (v := ?_) 119 rfl rfl (by kernel_rfl) (by kernel_rfl) (by kernel_rfl) (fun _ _ _ h => h) (Or.inl ⟨by rfl, ?_⟩) (by assumption) ?_
                    rotate_left
                    · (intro wS hSw; (try dsimp only at hSw); go_simp; try with_reducible rfl)
                    simp only [Act.put, List.setIfInBounds_toArray, List.set_cons_zero, List.set_cons_succ]
                    refine take_ (i := 9) (v := ?_) 120 rfl rfl (by kernel_rfl) (by kernel_rfl) (by kernel_rfl) (fun _ _ _ h => h) (Or.inl ⟨by rfl, ?_⟩) (by assumption) ?_
                    rotate_left
                    · (intro wS hSw; (try dsimp only at hSw); go_simp; try with_reducible rfl)
                    simp only [Act.put, List.setIfInBounds_toArray, List.set_cons_zero, List.set_cons_succ]
                    refine take_ (i := 10) (v := ?_) 121 rfl rfl (by kernel_rfl) (by kernel_rfl) (by kernel_rfl) (fun _ _ _ h => h) (Or.inl ⟨by rfl, ?_⟩) (by assumption) ?_
                    rotate_left
                    · (intro wS hSw; (try dsimp only at hSw); go_simp; try with_reducible rfl)
                    simp only [Act.put, List.setIfInBounds_toArray, List.set_cons_zero, List.set_cons_succ]
                    refine take_ (i := 11) (v := ?_) 122 rfl rfl (by kernel_rfl) (by kernel_rfl) (by kernel_rfl) (fun _ _ _ h => h) (Or.inl ⟨by rfl, ?_⟩) (by assumption) ?_
                    rotate_left
                    · (intro wS hSw; (try dsimp only at hSw); go_simp; try with_reducible rfl)
                    simp only [Act.put, List.setIfInBounds_toArray, List.set_cons_zero, List.set_cons_succ]
                    refine take_ (i := 12) (v := ?_) 123 rfl rfl (by kernel_rfl) (by kernel_rfl) (by kernel_rfl) (fun _ _ _ h => h) (Or.inl ⟨by rfl, ?_⟩) (by assumption) ?_
                    rotate_left
                    · (intro wS hSw; (try dsimp only at hSw); go_simp; try with_reducible rfl)
                    simp only [Act.put, List.setIfInBounds_toArray, List.set_cons_zero, List.set_cons_succ]
                    refine take_ (i := 13) (v := ?_) 124 rfl rfl (by kernel_rfl) (by kernel_rfl) (by kernel_rfl) (fun _ _ _ h => h) (Or.inl ⟨by rfl, ?_⟩) (by assumption) ?_
                    rotate_left
                    · (intro wS hSw; (try dsimp only at hSw); go_simp; try with_reducible rfl)
                    simp only [Act.put, List.setIfInBounds_toArray, List.set_cons_zero, List.set_cons_succ]
                    refine take_ (i := 14) (v := ?_) 125 rfl rfl (by kernel_rfl) (by kernel_rfl) (by kernel_rfl) (fun _ _ _ h => h) (Or.inl ⟨by rfl, ?_⟩) (by assumption) ?_
                    rotate_left
                    · (intro wS hSw; (try dsimp only at hSw); go_simp; try with_reducible rfl)
                    simp only [Act.put, List.setIfInBounds_toArray, List.set_cons_zero, List.set_cons_succ]
                    refine take_ (i := 15) (v := ?_) 126 rfl rfl (by kernel_rfl) (by kernel_rfl) (by kernel_rfl) (fun _ _ _ h => h) (Or.inl ⟨by rfl, ?_⟩) (by assumption) ?_
                    rotate_left
                    · (intro wS hSw; (try dsimp only at hSw); go_simp; try with_reducible rfl)
                    simp only [Act.put, List.setIfInBounds_toArray, List.set_cons_zero, List.set_cons_succ]
                    refine take_ (i := 16) (v := ?_) 8 rfl rfl (by kernel_rfl) (by kernel_rfl) (by kernel_rfl) (fun _ _ _ h => h) (Or.inl ⟨by rfl, ?_⟩) (by assumption) ?_
                    rotate_left
                    · (intro wS hSw; (try dsimp only at hSw); go_simp; try with_reducible rfl)
                    simp only [Act.put, List.setIfInBounds_toArray, List.set_cons_zero, List.set_cons_succ]
                    refine take_ (i := 17) (v := ?_) 9 rfl rfl (by kernel_rfl) (by kernel_rfl) (by kernel_rfl) (fun _ _ _ h => h) (Or.inl ⟨by rfl, ?_⟩) (by assumption) ?_
                    rotate_left
                    · (intro wS hSw; (try dsimp only at hSw); go_simp; try with_reducible rfl)
                    simp only [Act.put, List.setIfInBounds_toArray, List.set_cons_zero, List.set_cons_succ]
                    refine take_ (i := 18) (v := ?_) 10 rfl rfl (by kernel_rfl) (by kernel_rfl) (by kernel_rfl) (fun _ _ _ h => h) (Or.inl ⟨by rfl, ?_⟩) (by assumption) ?_
                    rotate_left
                    · (intro wS hSw; (try dsimp only at hSw); go_simp; try with_reducible rfl)
                    simp only [Act.put, List.setIfInBounds_toArray, List.set_cons_zero, List.set_cons_succ]
                    refine wpAnyH_done (by kernel_rfl) ?_ _
                    refine NoPanic.normal ?_
                    clear x2 hHeld
                    go_wp2_with fail
                    go_ret3
                    have hwr : IntKind.i64.wrap ((m9 : Int) + 1) = ((m9 + 1 : Nat) : Int) := by
                      rw [IntKind.wrap_i64]; omega
                    have hbe : ((m9 : Int) + 1 == IntKind.i64.wrap ((m9 : Int) + 1)) = true := by
                      rw [hwr]
                      simp
                    show LiveRes w0 d reg N r C0.length (.returned (.tuple #[.int .i64 (IntKind.i64.wrap ((m9 : Int) + 1)), .int .i64 (sy : Int), .bool ((m9 : Int) + 1 == IntKind.i64.wrap ((m9 : Int) + 1))])) _
                    rw [hbe, hwr]
                    exact RES.out
              · have k45 : (kd : Int) % 6 = 4 ∨ (kd : Int) % 6 = 5 := by omega
                clear k0 k1 k23
                have SY := Lib.hid (s_sync w0 w8 false p d reg N _ C P D8.out.po.ps)
                rcases k45 with k4 | k4
                · go_wp2_with fail
                  refine SY.out.mono ?_
                  rintro e w9 (⟨rfl, P1, ps9, hs9, hm9⟩ | ⟨rfl, _, hdied⟩)
                  · have hin : ∀ y ∈ P.foot, y ∈ pfoot t tm P := fun y hy => mem_pfoot.2 (.inr (.inr hy))
                    have rb9 := D8.out.rb.only hm9.only (fun y hy hz => D8.out.far y (.inl hy) (hin y hz))
                    have far9 : ∀ y ∈ KR, y ∉ P1.foot := fun y hy hz => by
                      rcases hm9.foot y hz with e1 | e1
                      · exact D8.out.far y (.inl hy) (hin y e1)
                      · have := (D8.out.rb.lt y hy).2; omega
                    have h79 : Held w9 q7 67 #[.slice x.A x.n x.c, .int .u8 (x.fuel : Int), .slice x.kA x.kn x.kc, .slice x.aA x.an x.ac] := H8.out.only hm9.only (fun hz => F7.out (mem_dfoot.2 (.inl (hin _ hz))))
                    have DD := dead_any w9 d P1.F P1.m (ps9.lives rb9 far9 D8.out.sims).disk
                    rw [ps9.inv.inv.alive] at DD
                    have SS := s_synced w0 w9 false p d reg N _ C P1 ps9
                    have SD := s_done w0 w9 false p d reg N _ C P1 ps9
                    rw [hs9] at SS
                    obtain ⟨A9, c9, hv9⟩ := pslice rb9.puts.row
                    have x2 : w9.cell? ⟨r, 2, none⟩ = some (.slice A9 C.length c9) := by rw [← LB.out.2, ← hv9]; exact rb9.pg.cell 2
                    obtain ⟨m9, hm9'⟩ : ∃ m9, m9 = C.length := ⟨_, rfl⟩
                    have HM9 := Lib.hid hm9'
                    rw [← hm9'] at x2 SS SD
                    have Q9 : Hid (PSide w0 w9 false p d reg N (.pointer (some ⟨t, 0, none⟩)) C P1 ∧ RBase w0 w9 r N (reg - 1) Ls v vs KR ∧ (∀ y ∈ KR, y ∉ P1.foot) ∧ Sims N C Ls ∧ Held w9 q7 67 #[.slice x.A x.n x.c, .int .u8 (x.fuel : Int), .slice x.kA x.kn x.kc, .slice x.aA x.an x.ac]) := ⟨ps9, rb9, far9, D8.out.sims, h79⟩
                    have SS := Lib.hid SS
                    have SD := Lib.hid SD
                    have DD := Lib.hid DD
                    have rl : r < w9.heap.size := rb9.pg.lt
                    clear ps9 hs9 hm9 hin rb9 far9 h79 hv9 hm9' SY D8 o0 OB H8
                    go_wp2_with fail
                    refine DD.out.mono ?_
                    rintro e w' ⟨rfl, rfl⟩
                    go_wp2_with fail
                    refine SS.out.mono ?_
                    rintro e w' ⟨rfl, rfl⟩
                    go_wp2_with fail
                    refine SD.out.mono ?_
                    rintro e w10 ⟨rfl, q, hw10⟩
                    have B10 : Below w9.heap.size w9 w10 := by rw [hw10]; exact punder_drewN _ _
                    have x2' : w10.cell? ⟨r, 2, none⟩ = some (.slice A9 m9 c9) := (B10.cell (p := ⟨r, 2, none⟩) rl).trans x2
                    have BU := Lib.hid (s_busy w0 w10 false p d reg N t C P1 (Q9.out.1.under B10))
                    have BB := Lib.hid B10
                    clear hw10 B10 SS SD DD x2 rl
                    go_wp2_with fail
                    refine BU.out.mono ?_
                    rintro e w11 ⟨rfl, ps11, ho11⟩
                    have pin := ps11.pin
                    have rb11 := (Q9.out.2.1.under BB.out).only ho11 (fun y hy hm => Q9.out.2.2.1 y hy (by rw [List.mem_singleton.1 hm]; exact pin))
                    have h11 : Held w11 q7 67 #[.slice x.A x.n x.c, .int .u8 (x.fuel : Int), .slice x.kA x.kn x.kc, .slice x.aA x.an x.ac] := (Q9.out.2.2.2.2.only (Only.of_below (F := []) BB.out) (by simp)).only ho11 (fun hm => F7.out (by rw [List.mem_singleton.1 hm]; exact PIN.out))
                    have LE := ps11.lives rb11 Q9.out.2.2.1 Q9.out.2.2.2.1
                    have FN : Hid (Fin4 w0 (w11.alloc (.cells #[.pointer (some ⟨r, 0, none⟩), .slice none 0 0] 43)) 6 p d reg N r C Ls P1 (.pointer (some ⟨t, 0, none⟩)) v vs KR ∧ Held (w11.alloc (.cells #[.pointer (some ⟨r, 0, none⟩), .slice none 0 0] 43)) q7 67 #[.slice x.A x.n x.c, .int .u8 (x.fuel : Int), .slice x.kA x.kn x.kc, .slice x.aA x.an x.ac]) :=
                      ⟨⟨ps11.pag.alloc _, ps11.ids.1, .inr ⟨by decide, ps11.inv.inv.alive⟩, LE.under ((Below.refl _ _).alloc (Nat.le_refl _) _)⟩, h11.alloc _⟩
                    clear ps11 ho11 pin rb11 h11 LE BU BB Q9 x2' F7
                    go_wp2_with fail
                    go_roundw
                    case rel => exact ⟨i + 1, C, Ls, by omega, by go_num, by rw [HM9.out], by have := HC.out; omega, .inr ⟨6, rfl, by decide, _, _, _, _, _, FN.out.1, FN.out.2⟩⟩
                    case measure => simp [intOf]; omega
                  · obtain ⟨_, _, hm1, _⟩ := id hdied
                    have hin : ∀ y ∈ P.foot, y ∈ pfoot t tm P := fun y hy => mem_pfoot.2 (.inr (.inr hy))
                    have rb9 := D8.out.rb.only hm1.only (fun y hy hz => D8.out.far y (.inl hy) (hin y hz))
                    have h79 : Held w9 q7 67 #[.slice x.A x.n x.c, .int .u8 (x.fuel : Int), .slice x.kA x.kn x.kc, .slice x.aA x.an x.ac] := H8.out.only hm1.only (fun hz => F7.out (mem_dfoot.2 (.inl (hin _ hz))))
                    obtain ⟨P1, pa1, pe1, pd1, md1, le1, _⟩ := died_lives (C' := C) D8.out.po.ps hdied List.take_length (Nat.le_refl _) rb9 (fun y hy => ⟨fun hz => D8.out.far y (.inl hy) (hin y hz), .inl (D8.out.rb.lt y hy).2⟩) D8.out.sims (Only.refl [] w9) (by simp)
                    have DD := dead_any w9 d P1.F P1.m le1.disk
                    rw [md1] at DD
                    have BG := dead_begin w9 P1 _ pa1 pd1
                    rw [pe1] at BG
                    obtain ⟨A9, c9, hv9⟩ := pslice rb9.puts.row
                    have x2 : w9.cell? ⟨r, 2, none⟩ = some (.slice A9 C.length c9) := by rw [← LB.out.2, ← hv9]; exact rb9.pg.cell 2
                    obtain ⟨m9, hm9'⟩ : ∃ m9, m9 = C.length := ⟨_, rfl⟩
                    have HM9 := Lib.hid hm9'
                    rw [← hm9'] at x2
                    have FR : Hid (p ∉ P1.F ∧ p ∉ KR ∧ w0.heap.size ≤ p) := ⟨fun hm => by
                      have h1 := pa1.pfar
                      rw [pe1] at h1
                      exact h1 (List.mem_append.2 (.inr hm)), fun hm => D8.out.far p (.inl hm) (mem_pfoot.2 (.inr (.inr D8.out.po.ps.pin))), D8.out.po.ps.new p D8.out.po.ps.pin⟩
                    have Q9 : Hid (P1.p = p ∧ P1.m.dead = true ∧ LEnd w0 w9 d reg N r C Ls P1.F P1.m v vs KR P1.s.synced ∧ Held w9 q7 67 #[.slice x.A x.n x.c, .int .u8 (x.fuel : Int), .slice x.kA x.kn x.kc, .slice x.aA x.an x.ac]) := ⟨pe1, md1, le1, h79⟩
                    have BG := Lib.hid BG
                    have DD := Lib.hid DD
                    clear hm1 hin rb9 h79 pa1 pe1 pd1 md1 le1 hv9 hm9' hdied SY D8 o0 OB H8
                    go_wp2_with fail
                    refine DD.out.mono ?_
                    rintro e w' ⟨rfl, rfl⟩
                    go_wp2_with fail
                    refine BG.out.mono ?_
                    rintro e w11 ⟨rfl, pa11, ho11⟩
                    have h11 : Held w11 q7 67 #[.slice x.A x.n x.c, .int .u8 (x.fuel : Int), .slice x.kA x.kn x.kc, .slice x.aA x.an x.ac] := Q9.out.2.2.2.only ho11 (fun hm => F7.out (by rw [List.mem_singleton.1 hm]; exact PIN.out))
                    have LE := Q9.out.2.2.1.only ho11 (fun y hy => by
                      have : y = p := List.mem_singleton.1 hy
                      rw [this]; exact FR.out)
                    have FN : Hid (Fin4 w0 (w11.alloc (.cells #[.pointer (some ⟨r, 0, none⟩), .slice none 0 0] 43)) 10 p d reg N r C Ls P1 (.pointer (some ⟨t, 0, none⟩)) v vs KR ∧ Held (w11.alloc (.cells #[.pointer (some ⟨r, 0, none⟩), .slice none 0 0] 43)) q7 67 #[.slice x.A x.n x.c, .int .u8 (x.fuel : Int), .slice x.kA x.kn x.kc, .slice x.aA x.an x.ac]) :=
                      ⟨⟨pa11.alloc _, Q9.out.1, .inl ⟨rfl, Q9.out.2.1⟩, LE.under ((Below.refl _ _).alloc (Nat.le_refl _) _)⟩, h11.alloc _⟩
                    clear pa11 ho11 h11 LE BG DD Q9 x2 F7
                    go_wp2_with fail
                    go_roundw
                    case rel => exact ⟨i + 1, C, Ls, by omega, by go_num, by rw [HM9.out], by have := HC.out; omega, .inr ⟨10, rfl, by decide, _, _, _, _, _, FN.out.1, FN.out.2⟩⟩
                    case measure => simp [intOf]; omega
                · go_wp2_with fail
                  refine SY.out.mono ?_
                  rintro e w9 (⟨rfl, P1, ps9, hs9, hm9⟩ | ⟨rfl, _, hdied⟩)
                  · have hin : ∀ y ∈ P.foot, y ∈ pfoot t tm P := fun y hy => mem_pfoot.2 (.inr (.inr hy))
                    have rb9 := D8.out.rb.only hm9.only (fun y hy hz => D8.out.far y (.inl hy) (hin y hz))
                    have far9 : ∀ y ∈ KR, y ∉ P1.foot := fun y hy hz => by
                      rcases hm9.foot y hz with e1 | e1
                      · exact D8.out.far y (.inl hy) (hin y e1)
                      · have := (D8.out.rb.lt y hy).2; omega
                    have h79 : Held w9 q7 67 #[.slice x.A x.n x.c, .int .u8 (x.fuel : Int), .slice x.kA x.kn x.kc, .slice x.aA x.an x.ac] := H8.out.only hm9.only (fun hz => F7.out (mem_dfoot.2 (.inl (hin _ hz))))
                    have DD := dead_any w9 d P1.F P1.m (ps9.lives rb9 far9 D8.out.sims).disk
                    rw [ps9.inv.inv.alive] at DD
                    have SS := s_synced w0 w9 false p d reg N _ C P1 ps9
                    have SD := s_done w0 w9 false p d reg N _ C P1 ps9
                    rw [hs9] at SS
                    obtain ⟨A9, c9, hv9⟩ := pslice rb9.puts.row
                    have x2 : w9.cell? ⟨r, 2, none⟩ = some (.slice A9 C.length c9) := by rw [← LB.out.2, ← hv9]; exact rb9.pg.cell 2
                    obtain ⟨m9, hm9'⟩ : ∃ m9, m9 = C.length := ⟨_, rfl⟩
                    have HM9 := Lib.hid hm9'
                    rw [← hm9'] at x2 SS SD
                    have Q9 : Hid (PSide w0 w9 false p d reg N (.pointer (some ⟨t, 0, none⟩)) C P1 ∧ RBase w0 w9 r N (reg - 1) Ls v vs KR ∧ (∀ y ∈ KR, y ∉ P1.foot) ∧ Sims N C Ls ∧ Held w9 q7 67 #[.slice x.A x.n x.c, .int .u8 (x.fuel : Int), .slice x.kA x.kn x.kc, .slice x.aA x.an x.ac]) := ⟨ps9, rb9, far9, D8.out.sims, h79⟩
                    have SS := Lib.hid SS
                    have SD := Lib.hid SD
                    have DD := Lib.hid DD
                    have rl : r < w9.heap.size := rb9.pg.lt
                    clear ps9 hs9 hm9 hin rb9 far9 h79 hv9 hm9' SY D8 o0 OB H8
                    go_wp2_with fail
                    refine DD.out.mono ?_
                    rintro e w' ⟨rfl, rfl⟩
                    go_wp2_with fail
                    refine SS.out.mono ?_
                    rintro e w' ⟨rfl, rfl⟩
                    go_wp2_with fail
                    refine SD.out.mono ?_
                    rintro e w10 ⟨rfl, q, hw10⟩
                    have B10 : Below w9.heap.size w9 w10 := by rw [hw10]; exact punder_drewN _ _
                    have x2' : w10.cell? ⟨r, 2, none⟩ = some (.slice A9 m9 c9) := (B10.cell (p := ⟨r, 2, none⟩) rl).trans x2
                    have BU := Lib.hid (s_busy w0 w10 false p d reg N t C P1 (Q9.out.1.under B10))
                    have BB := Lib.hid B10
                    clear hw10 B10 SS SD DD x2 rl
                    go_wp2_with fail
                    refine BU.out.mono ?_
                    rintro e w11 ⟨rfl, ps11, ho11⟩
                    have pin := ps11.pin
                    have rb11 := (Q9.out.2.1.under BB.out).only ho11 (fun y hy hm => Q9.out.2.2.1 y hy (by rw [List.mem_singleton.1 hm]; exact pin))
                    have h11 : Held w11 q7 67 #[.slice x.A x.n x.c, .int .u8 (x.fuel : Int), .slice x.kA x.kn x.kc, .slice x.aA x.an x.ac] := (Q9.out.2.2.2.2.only (Only.of_below (F := []) BB.out) (by simp)).only ho11 (fun hm => F7.out (by rw [List.mem_singleton.1 hm]; exact PIN.out))
                    have LE := ps11.lives rb11 Q9.out.2.2.1 Q9.out.2.2.2.1
                    have FN : Hid (Fin4 w0 (w11.alloc (.cells #[.pointer (some ⟨r, 0, none⟩), .slice none 0 0] 43)) 6 p d reg N r C Ls P1 (.pointer (some ⟨t, 0, none⟩)) v vs KR ∧ Held (w11.alloc (.cells #[.pointer (some ⟨r, 0, none⟩), .slice none 0 0] 43)) q7 67 #[.slice x.A x.n x.c, .int .u8 (x.fuel : Int), .slice x.kA x.kn x.kc, .slice x.aA x.an x.ac]) :=
                      ⟨⟨ps11.pag.alloc _, ps11.ids.1, .inr ⟨by decide, ps11.inv.inv.alive⟩, LE.under ((Below.refl _ _).alloc (Nat.le_refl _) _)⟩, h11.alloc _⟩
                    clear ps11 ho11 pin rb11 h11 LE BU BB Q9 x2' F7
                    go_wp2_with fail
                    go_roundw
                    case rel => exact ⟨i + 1, C, Ls, by omega, by go_num, by rw [HM9.out], by have := HC.out; omega, .inr ⟨6, rfl, by decide, _, _, _, _, _, FN.out.1, FN.out.2⟩⟩
                    case measure => simp [intOf]; omega
                  · obtain ⟨_, _, hm1, _⟩ := id hdied
                    have hin : ∀ y ∈ P.foot, y ∈ pfoot t tm P := fun y hy => mem_pfoot.2 (.inr (.inr hy))
                    have rb9 := D8.out.rb.only hm1.only (fun y hy hz => D8.out.far y (.inl hy) (hin y hz))
                    have h79 : Held w9 q7 67 #[.slice x.A x.n x.c, .int .u8 (x.fuel : Int), .slice x.kA x.kn x.kc, .slice x.aA x.an x.ac] := H8.out.only hm1.only (fun hz => F7.out (mem_dfoot.2 (.inl (hin _ hz))))
                    obtain ⟨P1, pa1, pe1, pd1, md1, le1, _⟩ := died_lives (C' := C) D8.out.po.ps hdied List.take_length (Nat.le_refl _) rb9 (fun y hy => ⟨fun hz => D8.out.far y (.inl hy) (hin y hz), .inl (D8.out.rb.lt y hy).2⟩) D8.out.sims (Only.refl [] w9) (by simp)
                    have DD := dead_any w9 d P1.F P1.m le1.disk
                    rw [md1] at DD
                    have BG := dead_begin w9 P1 _ pa1 pd1
                    rw [pe1] at BG
                    obtain ⟨A9, c9, hv9⟩ := pslice rb9.puts.row
                    have x2 : w9.cell? ⟨r, 2, none⟩ = some (.slice A9 C.length c9) := by rw [← LB.out.2, ← hv9]; exact rb9.pg.cell 2
                    obtain ⟨m9, hm9'⟩ : ∃ m9, m9 = C.length := ⟨_, rfl⟩
                    have HM9 := Lib.hid hm9'
                    rw [← hm9'] at x2
                    have FR : Hid (p ∉ P1.F ∧ p ∉ KR ∧ w0.heap.size ≤ p) := ⟨fun hm => by
                      have h1 := pa1.pfar
                      rw [pe1] at h1
                      exact h1 (List.mem_append.2 (.inr hm)), fun hm => D8.out.far p (.inl hm) (mem_pfoot.2 (.inr (.inr D8.out.po.ps.pin))), D8.out.po.ps.new p D8.out.po.ps.pin⟩
                    have Q9 : Hid (P1.p = p ∧ P1.m.dead = true ∧ LEnd w0 w9 d reg N r C Ls P1.F P1.m v vs KR P1.s.synced ∧ Held w9 q7 67 #[.slice x.A x.n x.c, .int .u8 (x.fuel : Int), .slice x.kA x.kn x.kc, .slice x.aA x.an x.ac]) := ⟨pe1, md1, le1, h79⟩
                    have BG := Lib.hid BG
                    have DD := Lib.hid DD
                    clear hm1 hin rb9 h79 pa1 pe1 pd1 md1 le1 hv9 hm9' hdied SY D8 o0 OB H8
                    go_wp2_with fail
                    refine DD.out.mono ?_
                    rintro e w' ⟨rfl, rfl⟩
                    go_wp2_with fail
                    refine BG.out.mono ?_
                    rintro e w11 ⟨rfl, pa11, ho11⟩
                    have h11 : Held w11 q7 67 #[.slice x.A x.n x.c, .int .u8 (x.fuel : Int), .slice x.kA x.kn x.kc, .slice x.aA x.an x.ac] := Q9.out.2.2.2.only ho11 (fun hm => F7.out (by rw [List.mem_singleton.1 hm]; exact PIN.out))
                    have LE := Q9.out.2.2.1.only ho11 (fun y hy => by
                      have : y = p := List.mem_singleton.1 hy
                      rw [this]; exact FR.out)
                    have FN : Hid (Fin4 w0 (w11.alloc (.cells #[.pointer (some ⟨r, 0, none⟩), .slice none 0 0] 43)) 10 p d reg N r C Ls P1 (.pointer (some ⟨t, 0, none⟩)) v vs KR ∧ Held (w11.alloc (.cells #[.pointer (some ⟨r, 0, none⟩), .slice none 0 0] 43)) q7 67 #[.slice x.A x.n x.c, .int .u8 (x.fuel : Int), .slice x.kA x.kn x.kc, .slice x.aA x.an x.ac]) :=
                      ⟨⟨pa11.alloc _, Q9.out.1, .inl ⟨rfl, Q9.out.2.1⟩, LE.under ((Below.refl _ _).alloc (Nat.le_refl _) _)⟩, h11.alloc _⟩
                    clear pa11 ho11 h11 LE BG DD Q9 x2 F7
                    go_wp2_with fail
                    go_roundw
                    case rel => exact ⟨i + 1, C, Ls, by omega, by go_num, by rw [HM9.out], by have := HC.out; omega, .inr ⟨10, rfl, by decide, _, _, _, _, _, FN.out.1, FN.out.2⟩⟩
                    case measure => simp [intOf]; omega
        · have FN : Hid (Fin4 w0 wr 0 p d reg N r C Ls P (.pointer (some ⟨t, 0, none⟩)) v vs KR) := ⟨DU.out.po.ps.pag, DU.out.po.ps.ids.1, .inr ⟨by decide, DU.out.po.ps.inv.inv.alive⟩, DU.out.po.ps.lives DU.out.rb (fun y hy hm => DU.out.far y (.inl hy) (mem_pfoot.2 (.inr (.inr hm)))) DU.out.sims⟩
          have hd := DU.out.po.ps.inv.inv.alive
          clear DU F7 H7
          by_cases hn : i < x.n
          · have hk1 : (i : Int) < (x.n : Int) := by omega
            have hk2 : ¬ (i : Int) < 60 := by omega
            go_upto_region 31 with fail
            clear hk1 hk2 l0
            have SY := psynced_any wr P _ FN.out.pag
            rw [FN.out.pe] at SY
            have DD := dead_any wr d P.F P.m FN.out.le.disk
            rw [hd] at DD
            obtain ⟨sy, hsy⟩ : ∃ sy, sy = P.s.synced := ⟨_, rfl⟩
            have LE := FN.out.le
            rw [← hsy] at LE SY
            have RES : Hid (LiveRes w0 d reg N r C0.length (.returned (.tuple #[.int .i64 ((C.length : Nat) : Int), .int .i64 ((sy : Nat) : Int), .bool true])) wr) := ⟨C, Ls, P.F, P.m, v, vs, KR, sy, rfl, LE, by have := HC.out; have := HM0.out; omega⟩
            obtain ⟨m, hm⟩ : ∃ m, m = C.length := ⟨_, rfl⟩
            rw [← hm] at RES ⊢
            have SY := Lib.hid SY
            have DD := Lib.hid DD
            clear LE hsy hm hd FN
            go_wp2_with fail
            refine SY.out.mono ?_
            rintro e w' ⟨rfl, rfl⟩
            go_wp2_with fail
            refine DD.out.mono ?_
            rintro e w' ⟨rfl, rfl⟩
            go_wp2_with fail
            go_ret3
            exact RES.out
          · have hk1 : ¬ (i : Int) < (x.n : Int) := by omega
            go_upto_region 31 with fail
            clear hk1 l0
            have SY := psynced_any wr P _ FN.out.pag
            rw [FN.out.pe] at SY
            have DD := dead_any wr d P.F P.m FN.out.le.disk
            rw [hd] at DD
            obtain ⟨sy, hsy⟩ : ∃ sy, sy = P.s.synced := ⟨_, rfl⟩
            have LE := FN.out.le
            rw [← hsy] at LE SY
            have RES : Hid (LiveRes w0 d reg N r C0.length (.returned (.tuple #[.int .i64 ((C.length : Nat) : Int), .int .i64 ((sy : Nat) : Int), .bool true])) wr) := ⟨C, Ls, P.F, P.m, v, vs, KR, sy, rfl, LE, by have := HC.out; have := HM0.out; omega⟩
            obtain ⟨m, hm⟩ : ∃ m, m = C.length := ⟨_, rfl⟩
            rw [← hm] at RES ⊢
            have SY := Lib.hid SY
            have DD := Lib.hid DD
            clear LE hsy hm hd FN
            go_wp2_with fail
            refine SY.out.mono ?_
            rintro e w' ⟨rfl, rfl⟩
            go_wp2_with fail
            refine DD.out.mono ?_
            rintro e w' ⟨rfl, rfl⟩
            go_wp2_with fail
            go_ret3
            exact RES.out
      · have FN := Lib.hid hFin
        have l0 : wr.cell? ⟨q7, 0, none⟩ = some (.slice x.A x.n x.c) := hH.cell 0
        rcases hFin.how with ⟨rfl, hd⟩ | ⟨hy10, hd⟩
        · clear hFin hH
          by_cases hn : i < x.n
          · have hk1 : (i : Int) < (x.n : Int) := by omega
            by_cases h60 : i < 60
            · have hk2 : (i : Int) < 60 := by omega
              go_upto_region 31 with fail
              clear hk1 hk2 l0
              have SY := psynced_any wr P tx FN.out.pag
              rw [FN.out.pe] at SY
              have DD := dead_any wr d P.F P.m FN.out.le.disk
              rw [hd] at DD
              obtain ⟨sy, hsy⟩ : ∃ sy, sy = P.s.synced := ⟨_, rfl⟩
              have LE := FN.out.le
              rw [← hsy] at LE SY
              have RES : Hid (LiveRes w0 d reg N r C0.length (.returned (.tuple #[.int .i64 ((C.length : Nat) : Int), .int .i64 ((sy : Nat) : Int), .bool true])) wr) := ⟨C, Ls, P.F, P.m, v, vs, KR, sy, rfl, LE, by have := HC.out; have := HM0.out; omega⟩
              obtain ⟨m, hm⟩ : ∃ m, m = C.length := ⟨_, rfl⟩
              rw [← hm] at RES ⊢
              have SY := Lib.hid SY
              have DD := Lib.hid DD
              clear LE hsy hm hd FN
              go_wp2_with fail
              refine SY.out.mono ?_
              rintro e w' ⟨rfl, rfl⟩
              go_wp2_with fail
              refine DD.out.mono ?_
              rintro e w' ⟨rfl, rfl⟩
              go_wp2_with fail
              go_ret3
              exact RES.out
            · have hk2 : ¬ (i : Int) < 60 := by omega
              go_upto_region 31 with fail
              clear hk1 hk2 l0
              have SY := psynced_any wr P tx FN.out.pag
              rw [FN.out.pe] at SY
              have DD := dead_any wr d P.F P.m FN.out.le.disk
              rw [hd] at DD
              obtain ⟨sy, hsy⟩ : ∃ sy, sy = P.s.synced := ⟨_, rfl⟩
              have LE := FN.out.le
              rw [← hsy] at LE SY
              have RES : Hid (LiveRes w0 d reg N r C0.length (.returned (.tuple #[.int .i64 ((C.length : Nat) : Int), .int .i64 ((sy : Nat) : Int), .bool true])) wr) := ⟨C, Ls, P.F, P.m, v, vs, KR, sy, rfl, LE, by have := HC.out; have := HM0.out; omega⟩
              obtain ⟨m, hm⟩ : ∃ m, m = C.length := ⟨_, rfl⟩
              rw [← hm] at RES ⊢
              have SY := Lib.hid SY
              have DD := Lib.hid DD
              clear LE hsy hm hd FN
              go_wp2_with fail
              refine SY.out.mono ?_
              rintro e w' ⟨rfl, rfl⟩
              go_wp2_with fail
              refine DD.out.mono ?_
              rintro e w' ⟨rfl, rfl⟩
              go_wp2_with fail
              go_ret3
              exact RES.out
          · have hk1 : ¬ (i : Int) < (x.n : Int) := by omega
            go_upto_region 31 with fail
            clear hk1 l0
            have SY := psynced_any wr P tx FN.out.pag
            rw [FN.out.pe] at SY
            have DD := dead_any wr d P.F P.m FN.out.le.disk
            rw [hd] at DD
            obtain ⟨sy, hsy⟩ : ∃ sy, sy = P.s.synced := ⟨_, rfl⟩
            have LE := FN.out.le
            rw [← hsy] at LE SY
            have RES : Hid (LiveRes w0 d reg N r C0.length (.returned (.tuple #[.int .i64 ((C.length : Nat) : Int), .int .i64 ((sy : Nat) : Int), .bool true])) wr) := ⟨C, Ls, P.F, P.m, v, vs, KR, sy, rfl, LE, by have := HC.out; have := HM0.out; omega⟩
            obtain ⟨m, hm⟩ : ∃ m, m = C.length := ⟨_, rfl⟩
            rw [← hm] at RES ⊢
            have SY := Lib.hid SY
            have DD := Lib.hid DD
            clear LE hsy hm hd FN
            go_wp2_with fail
            refine SY.out.mono ?_
            rintro e w' ⟨rfl, rfl⟩
            go_wp2_with fail
            refine DD.out.mono ?_
            rintro e w' ⟨rfl, rfl⟩
            go_wp2_with fail
            go_ret3
            exact RES.out
        · clear hFin hH
          have hyd : decide (y = 10) = false := decide_eq_false hy10
          have hyd0 : decide (y = 0) = false := decide_eq_false hy
          by_cases hn : i < x.n
          · have hk1 : (i : Int) < (x.n : Int) := by omega
            by_cases h60 : i < 60
            · have hk2 : (i : Int) < 60 := by omega
              go_upto_region 31 with fail
              clear hk1 hk2 l0
              have SY := psynced_any wr P tx FN.out.pag
              rw [FN.out.pe] at SY
              have DD := dead_any wr d P.F P.m FN.out.le.disk
              rw [hd] at DD
              obtain ⟨sy, hsy⟩ : ∃ sy, sy = P.s.synced := ⟨_, rfl⟩
              have LE := FN.out.le
              rw [← hsy] at LE SY
              have RES : Hid (LiveRes w0 d reg N r C0.length (.returned (.tuple #[.int .i64 ((C.length : Nat) : Int), .int .i64 ((sy : Nat) : Int), .bool true])) wr) := ⟨C, Ls, P.F, P.m, v, vs, KR, sy, rfl, LE, by have := HC.out; have := HM0.out; omega⟩
              obtain ⟨m, hm⟩ : ∃ m, m = C.length := ⟨_, rfl⟩
              rw [← hm] at RES ⊢
              have SY := Lib.hid SY
              have DD := Lib.hid DD
              clear LE hsy hm hd FN
              go_wp2_with fail
              refine SY.out.mono ?_
              rintro e w' ⟨rfl, rfl⟩
              go_wp2_with fail
              refine DD.out.mono ?_
              rintro e w' ⟨rfl, rfl⟩
              go_wp2_with fail
              go_ret3
              exact RES.out
            · have hk2 : ¬ (i : Int) < 60 := by omega
              go_upto_region 31 with fail
              clear hk1 hk2 l0
              have SY := psynced_any wr P tx FN.out.pag
              rw [FN.out.pe] at SY
              have DD := dead_any wr d P.F P.m FN.out.le.disk
              rw [hd] at DD
              obtain ⟨sy, hsy⟩ : ∃ sy, sy = P.s.synced := ⟨_, rfl⟩
              have LE := FN.out.le
              rw [← hsy] at LE SY
              have RES : Hid (LiveRes w0 d reg N r C0.length (.returned (.tuple #[.int .i64 ((C.length : Nat) : Int), .int .i64 ((sy : Nat) : Int), .bool true])) wr) := ⟨C, Ls, P.F, P.m, v, vs, KR, sy, rfl, LE, by have := HC.out; have := HM0.out; omega⟩
              obtain ⟨m, hm⟩ : ∃ m, m = C.length := ⟨_, rfl⟩
              rw [← hm] at RES ⊢
              have SY := Lib.hid SY
              have DD := Lib.hid DD
              clear LE hsy hm hd FN
              go_wp2_with fail
              refine SY.out.mono ?_
              rintro e w' ⟨rfl, rfl⟩
              go_wp2_with fail
              refine DD.out.mono ?_
              rintro e w' ⟨rfl, rfl⟩
              go_wp2_with fail
              go_ret3
              exact RES.out
          · have hk1 : ¬ (i : Int) < (x.n : Int) := by omega
            go_upto_region 31 with fail
            clear hk1 l0
            have SY := psynced_any wr P tx FN.out.pag
            rw [FN.out.pe] at SY
            have DD := dead_any wr d P.F P.m FN.out.le.disk
            rw [hd] at DD
            obtain ⟨sy, hsy⟩ : ∃ sy, sy = P.s.synced := ⟨_, rfl⟩
            have LE := FN.out.le
            rw [← hsy] at LE SY
            have RES : Hid (LiveRes w0 d reg N r C0.length (.returned (.tuple #[.int .i64 ((C.length : Nat) : Int), .int .i64 ((sy : Nat) : Int), .bool true])) wr) := ⟨C, Ls, P.F, P.m, v, vs, KR, sy, rfl, LE, by have := HC.out; have := HM0.out; omega⟩
            obtain ⟨m, hm⟩ : ∃ m, m = C.length := ⟨_, rfl⟩
            rw [← hm] at RES ⊢
            have SY := Lib.hid SY
            have DD := Lib.hid DD
            clear LE hsy hm hd FN
            go_wp2_with fail
            refine SY.out.mono ?_
            rintro e w' ⟨rfl, rfl⟩
            go_wp2_with fail
            refine DD.out.mono ?_
            rintro e w' ⟨rfl, rfl⟩
            go_wp2_with fail
            go_ret3
            exact RES.out
end Go.Proofs.YtkajneeihhobhaaGreat
