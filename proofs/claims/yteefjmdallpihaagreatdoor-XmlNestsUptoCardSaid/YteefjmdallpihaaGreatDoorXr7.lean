/-
  xml: the reader's steps: instruction, declaration, aside.
-/
import Derived.Test.YteefjmdallpihaaGreatDoorXr6
namespace Go.Proofs.YteefjmdallpihaaGreatDoor
open Go.RowKit Reply

/-- strings.EqualFold of a name and 'xml' answers as the model says. -/
def FoldX : Prop := ∀ (u : World) (n : Reply.B), EnvX u → n.length ≤ 65536 → Calls Tryz.prog 57 #[.string (S n), .string ⟨#[120, 109, 108]⟩] u fun e w' => e = .returned (.bool (Xml.isXml n)) ∧ Below u.heap.size u w'
/-- What a call that tells nothing ends with. -/
def EndsU (w0 : World) (C p : Nat) (A : Option Addr) (c : Nat) (r : Xml.Res Unit) (e : Ending) (w' : World) : Prop := match r with
  | .bad n => e = .panicked [{ v := troubleX n, recovered := false }]
  | .ok _ s' => e = .returned (.tuple #[]) ∧ RdX w0 C w' p s' A c
theorem EndsU.bad {w0 : World} {C p : Nat} {A : Option Addr} {c n : Nat} {r : Xml.Res Unit} (h : r = .bad n) (w' : World) : EndsU w0 C p A c r (.panicked [{ v := troubleX n, recovered := false }]) w' := by rw [h]; rfl
theorem EndsU.ok {w0 w' : World} {C p : Nat} {A : Option Addr} {c : Nat} {s : Xml.St} {r : Xml.Res Unit} (h : r = .ok () s) (k : RdX w0 C w' p s A c) : EndsU w0 C p A c r (.returned (.tuple #[])) w' := by rw [h]; exact ⟨rfl, k⟩
/-- How many bytes a reader has left. -/
def restN (w : World) (p : Nat) : Nat := match w.cell? ⟨p, 0, none⟩ with
  | some (.string s) => s.size
  | _ => 0
section
variable {w0 w : World} {C p : Nat} {s : Xml.St} {A : Option Addr} {c : Nat}
theorem aside_white {f : Nat} (h : (Xml.white s).1 = true) : Xml.aside (f + 1) s = Xml.aside f (Xml.white s).2 := by
  show (if (Xml.white s).1 = true then _ else _) = _
  rw [if_pos h]
theorem aside_else {f : Nat} (h : (Xml.white s).1 = false) : Xml.aside (f + 1) s = (Xml.remark s).then fun b s => if b then Xml.aside f s else .ok () s := by
  show (if (Xml.white s).1 = true then _ else (Xml.remark (Xml.white s).2).then _) = _
  rw [if_neg (by rw [h]; simp), Xml.white_no s h]
theorem restN_is (h : RdX w0 C w p s A c) : restN w p = s.rest.length := by
  have c0 : w.cell? ⟨p, 0, none⟩ = some (.string (S s.rest)) := h.blk.cell 0
  unfold restN
  rw [c0]
  exact S_size _
set_option maxRecDepth 100000 in
set_option maxHeartbeats 8000000 in
theorem instrX_any (FO : FoldX) (h : RdX w0 C w p s A c) (hl : s.rest.length ≤ 65536) :
    Calls Tryz.prog 39 #[.pointer (some ⟨p, 0, none⟩)] w fun e w' => FrX C p w w' ∧ match Xml.instruction s with
      | .bad n => e = .panicked [{ v := troubleX n, recovered := false }]
      | .ok b s' => e = .returned (.bool b) ∧ RdX w0 C w' p s' A c := by
  have SK := Lib.hid (skipX_any h Xml.tPi)
  rw [show S Xml.tPi = ⟨#[60, 63]⟩ from rfl] at SK
  cases hk : (Xml.skip s Xml.tPi).1 with
  | false =>
    have E : Xml.instruction s = .ok false s := by unfold Xml.instruction; rw [if_neg (by rw [hk]; simp)]
    have e2 := Xml.skip_no s Xml.tPi hk
    rw [E]
    rw [hk, e2] at SK
    clear h E e2
    go_enter Tryz.func39, Tryz.ntmps39
    go_wp2_with fail
    refine SK.out.mono ?_
    rintro e w1 ⟨rfl, r1, f1⟩
    have F1 := Lib.hid f1
    have R1 := Lib.hid r1
    clear f1 r1 SK
    go_wp2_with fail
    go_ret
    exact ⟨F1.out, rfl, R1.out⟩
  | true =>
    have k2 := Xml.skip_lt s Xml.tPi hk
    have NM : Hid (∀ u, RdX w0 C u p (Xml.skip s Xml.tPi).2 A c → _) := fun u q => nameX_any (w := u) q (by omega)
    rw [hk] at SK
    cases hu : Xml.name (Xml.skip s Xml.tPi).2 with
    | bad n =>
      have E : Xml.instruction s = .bad n := by unfold Xml.instruction; rw [if_pos hk, hu]; rfl
      rw [E]
      rw [hu] at NM
      clear h E hu
      go_enter Tryz.func39, Tryz.ntmps39
      go_wp2_with fail
      refine SK.out.mono ?_
      rintro e w1 ⟨rfl, r1, f1⟩
      have F1 := Lib.hid f1
      have R1 := Lib.hid r1
      clear f1 r1 SK
      go_wp2_with fail
      refine (NM.out _ R1.out).mono ?_
      rintro e w2 ⟨f2, rfl⟩
      exact ⟨rfl, F1.out.trans f2, rfl⟩
    | ok a s1 =>
      rw [hu] at NM
      have k3 := Xml.name_ok hu
      have FD := Lib.hid (fun u (E : EnvX u) => FO u a E (by omega))
      cases hx : Xml.isXml a with
      | true =>
        have E : Xml.instruction s = .bad 30 := by unfold Xml.instruction; rw [if_pos hk, hu]; simp only [Xml.Res.then]; rw [if_pos hx]
        rw [E]
        rw [hx] at FD
        clear h E hu
        go_enter Tryz.func39, Tryz.ntmps39
        go_wp2_with fail
        refine SK.out.mono ?_
        rintro e w1 ⟨rfl, r1, f1⟩
        have F1 := Lib.hid f1
        have R1 := Lib.hid r1
        clear f1 r1 SK
        go_wp2_with fail
        refine (NM.out _ R1.out).mono ?_
        rintro e w2 ⟨f2, rfl, r2⟩
        have F2 := Lib.hid (F1.out.trans f2)
        have R2 := Lib.hid r2
        clear f2 r2 NM
        go_wp2_with fail
        refine (FD.out _ R2.out.envw).mono ?_
        rintro e w3 ⟨rfl, b3⟩
        have F3 := Lib.hid (F2.out.trans (FrX.under b3))
        have R3 := Lib.hid (R2.out.under b3)
        clear b3 FD
        go_wp2_with fail
        refine (demand_bad _ _).mono ?_
        rintro e w4 ⟨rfl, rfl⟩
        exact ⟨rfl, F3.out, rfl⟩
      | false =>
        have UP : Hid (∀ u, RdX w0 C u p s1 A c → _) := fun u q => uptoX_any (w := u) q (by omega) [63, 62]
        rw [hx] at FD
        cases hn : Xml.upto s1 [63, 62] with
        | bad n =>
          have E : Xml.instruction s = .bad n := by unfold Xml.instruction; rw [if_pos hk, hu]; simp only [Xml.Res.then]; rw [if_neg (by rw [hx]; simp), show Xml.tPiEnd = [63, 62] from rfl, hn]
          rw [E]
          rw [hn] at UP
          clear h E hu
          go_enter Tryz.func39, Tryz.ntmps39
          go_wp2_with fail
          refine SK.out.mono ?_
          rintro e w1 ⟨rfl, r1, f1⟩
          have F1 := Lib.hid f1
          have R1 := Lib.hid r1
          clear f1 r1 SK
          go_wp2_with fail
          refine (NM.out _ R1.out).mono ?_
          rintro e w2 ⟨f2, rfl, r2⟩
          have F2 := Lib.hid (F1.out.trans f2)
          have R2 := Lib.hid r2
          clear f2 r2 NM
          go_wp2_with fail
          refine (FD.out _ R2.out.envw).mono ?_
          rintro e w3 ⟨rfl, b3⟩
          have F3 := Lib.hid (F2.out.trans (FrX.under b3))
          have R3 := Lib.hid (R2.out.under b3)
          clear b3 FD
          go_wp2_with fail
          refine (demand_ok _ _).mono ?_
          rintro e w4 ⟨rfl, rfl⟩
          go_wp2_with fail
          refine (UP.out _ R3.out).mono ?_
          rintro e w4 ⟨f4, rfl⟩
          exact ⟨rfl, F3.out.trans f4, rfl⟩
        | ok a2 s2 =>
          have E : Xml.instruction s = .ok true s2 := by unfold Xml.instruction; rw [if_pos hk, hu]; simp only [Xml.Res.then]; rw [if_neg (by rw [hx]; simp), show Xml.tPiEnd = [63, 62] from rfl, hn]
          rw [E]
          rw [hn] at UP
          clear h E hu
          go_enter Tryz.func39, Tryz.ntmps39
          go_wp2_with fail
          refine SK.out.mono ?_
          rintro e w1 ⟨rfl, r1, f1⟩
          have F1 := Lib.hid f1
          have R1 := Lib.hid r1
          clear f1 r1 SK
          go_wp2_with fail
          refine (NM.out _ R1.out).mono ?_
          rintro e w2 ⟨f2, rfl, r2⟩
          have F2 := Lib.hid (F1.out.trans f2)
          have R2 := Lib.hid r2
          clear f2 r2 NM
          go_wp2_with fail
          refine (FD.out _ R2.out.envw).mono ?_
          rintro e w3 ⟨rfl, b3⟩
          have F3 := Lib.hid (F2.out.trans (FrX.under b3))
          have R3 := Lib.hid (R2.out.under b3)
          clear b3 FD
          go_wp2_with fail
          refine (demand_ok _ _).mono ?_
          rintro e w4 ⟨rfl, rfl⟩
          go_wp2_with fail
          refine (UP.out _ R3.out).mono ?_
          rintro e w4 ⟨f4, rfl, r4⟩
          have F4 := Lib.hid (F3.out.trans f4)
          have R4 := Lib.hid r4
          clear f4 r4 UP
          go_wp2_with fail
          go_ret
          exact ⟨F4.out, rfl, R4.out⟩
set_option maxRecDepth 100000 in
set_option maxHeartbeats 8000000 in
theorem declX_any (h : RdX w0 C w p s A c) (hl : s.rest.length ≤ 65536) :
    Calls Tryz.prog 26 #[.pointer (some ⟨p, 0, none⟩)] w fun e w' => FrX C p w w' ∧ match Xml.declaration s with
      | .bad n => e = .panicked [{ v := troubleX n, recovered := false }]
      | .ok _ s' => e = .returned (.tuple #[]) ∧ RdX w0 C w' p s' A c := by
  have c0 : w.cell? ⟨p, 0, none⟩ = some (.string (S s.rest)) := h.blk.cell 0
  have SK := Lib.hid (skipX_any h Xml.tXml)
  rw [show S Xml.tXml = ⟨#[60, 63, 120, 109, 108]⟩ from rfl] at SK
  have BK : Hid (∀ u s1, RdX w0 C u p s1 A c → s1.spaces = s.spaces → RdX w0 C (u.setCell ⟨p, 0, none⟩ (.string (S s.rest))) p s A c) := fun u s1 q e => by
    have := q.rest_ s.rest
    have e2 : ({ s1 with rest := s.rest } : Xml.St) = s := by rw [e]
    rw [e2] at this
    exact this
  cases hk : (Xml.skip s Xml.tXml).1 with
  | false =>
    have E : Xml.declaration s = .ok () s := by unfold Xml.declaration; rw [if_neg (by rw [hk]; simp)]
    have sp := (Xml.skip_le s Xml.tXml).2
    rw [E]
    rw [hk] at SK
    clear h E
    go_enter Tryz.func26, Tryz.ntmps26
    go_wp2_with fail
    refine SK.out.mono ?_
    rintro e w1 ⟨rfl, r1, f1⟩
    have F1 := Lib.hid f1
    have R1 := Lib.hid r1
    clear f1 r1 SK
    have y1 : w1.frozen? ⟨p, 0, none⟩ = false := R1.out.blk.frozen 0
    have c1 : w1.cell? ⟨p, 0, none⟩ = some (.string (S (Xml.skip s Xml.tXml).2.rest)) := R1.out.blk.cell 0
    go_wp2_with fail
    go_end0
    exact ⟨F1.out.set_ 0 _, rfl, BK.out _ _ R1.out sp⟩
  | true =>
    have WH : Hid (∀ u, RdX w0 C u p (Xml.skip s Xml.tXml).2 A c → _) := fun u q => whiteX_any (w := u) q
    have k1 := Xml.skip_le s Xml.tXml
    have k2 := Xml.white_le (Xml.skip s Xml.tXml).2
    rw [hk] at SK
    cases hw : (Xml.white (Xml.skip s Xml.tXml).2).1 with
    | false =>
      have E : Xml.declaration s = .ok () s := by unfold Xml.declaration; rw [if_neg (by rw [hk, hw]; simp)]
      rw [E]
      rw [hw] at WH
      clear h E
      go_enter Tryz.func26, Tryz.ntmps26
      go_wp2_with fail
      refine SK.out.mono ?_
      rintro e w1 ⟨rfl, r1, f1⟩
      have F1 := Lib.hid f1
      have R1 := Lib.hid r1
      clear f1 r1 SK
      go_wp2_with fail
      refine (WH.out _ R1.out).mono ?_
      rintro e w2 ⟨rfl, r2, f2⟩
      have F2 := Lib.hid (F1.out.trans f2)
      have R2 := Lib.hid r2
      clear f2 r2 WH
      have y1 : w2.frozen? ⟨p, 0, none⟩ = false := R2.out.blk.frozen 0
      have c1 : w2.cell? ⟨p, 0, none⟩ = some (.string (S (Xml.white (Xml.skip s Xml.tXml).2).2.rest)) := R2.out.blk.cell 0
      go_wp2_with fail
      go_end0
      exact ⟨F2.out.set_ 0 _, rfl, BK.out _ _ R2.out (k2.2.trans k1.2)⟩
    | true =>
      have UP : Hid (∀ u, RdX w0 C u p (Xml.white (Xml.skip s Xml.tXml).2).2 A c → _) := fun u q => uptoX_any (w := u) q (by omega) [63, 62]
      rw [hw] at WH
      cases hu : Xml.upto (Xml.white (Xml.skip s Xml.tXml).2).2 [63, 62] with
      | bad n =>
        have E : Xml.declaration s = .bad n := by unfold Xml.declaration; rw [if_pos (by rw [hk, hw]; rfl), show Xml.tPiEnd = [63, 62] from rfl, hu]; rfl
        rw [E]
        rw [hu] at UP
        clear h E
        go_enter Tryz.func26, Tryz.ntmps26
        go_wp2_with fail
        refine SK.out.mono ?_
        rintro e w1 ⟨rfl, r1, f1⟩
        have F1 := Lib.hid f1
        have R1 := Lib.hid r1
        clear f1 r1 SK
        go_wp2_with fail
        refine (WH.out _ R1.out).mono ?_
        rintro e w2 ⟨rfl, r2, f2⟩
        have F2 := Lib.hid (F1.out.trans f2)
        have R2 := Lib.hid r2
        clear f2 r2 WH
        go_wp2_with fail
        refine (UP.out _ R2.out).mono ?_
        rintro e w3 ⟨f3, rfl⟩
        exact ⟨rfl, F2.out.trans f3, rfl⟩
      | ok a s2 =>
        have E : Xml.declaration s = .ok () s2 := by unfold Xml.declaration; rw [if_pos (by rw [hk, hw]; rfl), show Xml.tPiEnd = [63, 62] from rfl, hu]; rfl
        rw [E]
        rw [hu] at UP
        clear h E
        go_enter Tryz.func26, Tryz.ntmps26
        go_wp2_with fail
        refine SK.out.mono ?_
        rintro e w1 ⟨rfl, r1, f1⟩
        have F1 := Lib.hid f1
        have R1 := Lib.hid r1
        clear f1 r1 SK
        go_wp2_with fail
        refine (WH.out _ R1.out).mono ?_
        rintro e w2 ⟨rfl, r2, f2⟩
        have F2 := Lib.hid (F1.out.trans f2)
        have R2 := Lib.hid r2
        clear f2 r2 WH
        go_wp2_with fail
        refine (UP.out _ R2.out).mono ?_
        rintro e w3 ⟨f3, rfl, r3⟩
        have F3 := Lib.hid (F2.out.trans f3)
        have R3 := Lib.hid r3
        clear f3 r3 UP
        go_wp2_with fail
        (try simp only [Exit.inBlock, Exit.then])
        refine bodyPost_ret (results_none rfl _ _ _) rfl ?_
        exact ⟨F3.out, rfl, R3.out⟩
set_option maxRecDepth 100000 in
set_option maxHeartbeats 8000000 in
theorem asideX_any (FO : FoldX) (h : RdX w0 C w p s A c) (hl : s.rest.length ≤ 65536) (f : Nat) (hf : s.rest.length < f) :
    Calls Tryz.prog 27 #[.pointer (some ⟨p, 0, none⟩)] w fun e w' => FrX C p w w' ∧ EndsU w0 C p A c (Xml.aside f s) e w' := by
  have HF := Lib.hid FO
  obtain ⟨R, hR⟩ : ∃ x, x = Xml.aside f s := ⟨_, rfl⟩
  have M0 : Hid (∃ s1 f1, RdX w0 C w p s1 A c ∧ s1.rest.length ≤ 65536 ∧ s1.rest.length < f1 ∧ R = Xml.aside f1 s1 ∧ FrX C p w w) := ⟨s, f, h, hl, hf, hR, FrX.refl _ _ _⟩
  rw [← hR]
  clear h hl hf hR FO
  go_enter Tryz.func27, Tryz.ntmps27
  go_wp2_with fail
  go_loopw [] (fun wr => Hid (∃ s1 f1, RdX w0 C wr p s1 A c ∧ s1.rest.length ≤ 65536 ∧ s1.rest.length < f1 ∧ R = Xml.aside f1 s1 ∧ FrX C p w wr)) (fun wr => restN wr p)
  case atStart => exact M0
  case round =>
    clear M0
    obtain ⟨s1, f1, q1, l1, l2, hR, fr⟩ := hrel
    obtain ⟨f2, rfl⟩ : ∃ k, f1 = k + 1 := ⟨f1 - 1, by omega⟩
    have Q1 := Lib.hid q1
    have G1 := Lib.hid fr
    have RN := Lib.hid (restN_is q1)
    have WH := Lib.hid (whiteX_any q1)
    clear q1 fr
    cases hw : (Xml.white s1).1 with
    | true =>
      have E : Hid (R = Xml.aside f2 (Xml.white s1).2) := hR.trans (aside_white hw)
      have k1 := Xml.white_lt s1 hw
      rw [hw] at WH
      clear hR
      go_wp2_with fail
      refine WH.out.mono ?_
      rintro e w2 ⟨rfl, r2, f2'⟩
      have M2 : Hid (∃ s1 f1, RdX w0 C w2 p s1 A c ∧ s1.rest.length ≤ 65536 ∧ s1.rest.length < f1 ∧ R = Xml.aside f1 s1 ∧ FrX C p w w2) := ⟨_, f2, r2, by omega, by omega, E.out, G1.out.trans f2'⟩
      have MS : Hid (restN w2 p < restN wr p) := by show _ < _; rw [RN.out, restN_is r2]; exact k1
      clear r2 f2' WH
      go_wp2_with fail
      go_roundw
      case rel => exact M2
      case measure => exact MS.out
    | false =>
      have e1 := Xml.white_no s1 hw
      rw [hw, e1] at WH
      have CM : Hid (∀ u, RdX w0 C u p s1 A c → _) := fun u q => commentX_any (w := u) q l1
      have IN : Hid (∀ u, RdX w0 C u p s1 A c → _) := fun u q => instrX_any (w := u) HF.out q l1
      have E : Hid (R = (Xml.remark s1).then fun b s => if b then Xml.aside f2 s else .ok () s) := hR.trans (aside_else hw)
      clear hR
      cases hc : Xml.comment s1 with
      | bad n =>
        have E2 : Hid (R = .bad n) := by show R = _; rw [E.out]; unfold Xml.remark; rw [hc]; rfl
        rw [hc] at CM
        clear E IN
        go_wp2_with fail
        refine WH.out.mono ?_
        rintro e w2 ⟨rfl, r2, g2⟩
        have R2 := Lib.hid r2
        have F2 := Lib.hid (G1.out.trans g2)
        clear r2 g2 WH
        go_wp2_with fail
        refine (CM.out _ R2.out).mono ?_
        rintro e w3 ⟨f3, rfl⟩
        exact ⟨rfl, F2.out.trans f3, EndsU.bad E2.out _⟩
      | ok b s2 =>
        rw [hc] at CM
        have k2 := Xml.comment_ok hc
        cases b with
        | true =>
          have k3 := k2.2.1 rfl
          have E2 : Hid (R = Xml.aside f2 s2) := by show R = _; rw [E.out]; unfold Xml.remark; rw [hc]; rfl
          clear E IN
          go_wp2_with fail
          refine WH.out.mono ?_
          rintro e w2 ⟨rfl, r2, g2⟩
          have R2 := Lib.hid r2
          have F2 := Lib.hid (G1.out.trans g2)
          clear r2 g2 WH
          go_wp2_with fail
          refine (CM.out _ R2.out).mono ?_
          rintro e w3 ⟨f3, rfl, r3⟩
          have F3 := Lib.hid (F2.out.trans f3)
          have R3 := Lib.hid r3
          clear f3 r3 CM
          have M9 : Hid (∃ s1 f1, RdX w0 C w3 p s1 A c ∧ s1.rest.length ≤ 65536 ∧ s1.rest.length < f1 ∧ R = Xml.aside f1 s1 ∧ FrX C p w w3) := ⟨_, f2, R3.out, by omega, by omega, E2.out, F3.out⟩
          have MS : Hid (restN w3 p < restN wr p) := by show _ < _; rw [RN.out, restN_is R3.out]; omega
          go_wp2_with fail
          go_roundw
          case rel => exact M9
          case measure => exact MS.out
        | false =>
          have e2 := k2.2.2.1 rfl
          rw [e2] at CM
          cases hi : Xml.instruction s1 with
          | bad n =>
            have E2 : Hid (R = .bad n) := by show R = _; rw [E.out]; unfold Xml.remark; rw [hc, e2]; simp only [Xml.Res.then]; rw [if_neg (by simp), hi]
            rw [hi] at IN
            clear E
            go_wp2_with fail
            refine WH.out.mono ?_
            rintro e w2 ⟨rfl, r2, g2⟩
            have R2 := Lib.hid r2
            have F2 := Lib.hid (G1.out.trans g2)
            clear r2 g2 WH
            go_wp2_with fail
            refine (CM.out _ R2.out).mono ?_
            rintro e w3 ⟨f3, rfl, r3⟩
            have F3 := Lib.hid (F2.out.trans f3)
            have R3 := Lib.hid r3
            clear f3 r3 CM
            go_wp2_with fail
            refine (IN.out _ R3.out).mono ?_
            rintro e w4 ⟨f4, rfl⟩
            exact ⟨rfl, F3.out.trans f4, EndsU.bad E2.out _⟩
          | ok b2 s3 =>
            rw [hi] at IN
            have k4 := Xml.instruction_ok hi
            cases b2 with
            | true =>
              have k3 := k4.2.1 rfl
              have E2 : Hid (R = Xml.aside f2 s3) := by show R = _; rw [E.out]; unfold Xml.remark; rw [hc, e2]; simp only [Xml.Res.then]; rw [if_neg (by simp), hi]; rfl
              clear E
              go_wp2_with fail
              refine WH.out.mono ?_
              rintro e w2 ⟨rfl, r2, g2⟩
              have R2 := Lib.hid r2
              have F2 := Lib.hid (G1.out.trans g2)
              clear r2 g2 WH
              go_wp2_with fail
              refine (CM.out _ R2.out).mono ?_
              rintro e w3 ⟨f3, rfl, r3⟩
              have F3 := Lib.hid (F2.out.trans f3)
              have R3 := Lib.hid r3
              clear f3 r3 CM
              go_wp2_with fail
              refine (IN.out _ R3.out).mono ?_
              rintro e w4 ⟨f4, rfl, r4⟩
              have F4 := Lib.hid (F3.out.trans f4)
              have R4 := Lib.hid r4
              clear f4 r4 IN
              have M9 : Hid (∃ s1 f1, RdX w0 C w4 p s1 A c ∧ s1.rest.length ≤ 65536 ∧ s1.rest.length < f1 ∧ R = Xml.aside f1 s1 ∧ FrX C p w w4) := ⟨_, f2, R4.out, by omega, by omega, E2.out, F4.out⟩
              have MS : Hid (restN w4 p < restN wr p) := by show _ < _; rw [RN.out, restN_is R4.out]; omega
              go_wp2_with fail
              go_roundw
              case rel => exact M9
              case measure => exact MS.out
            | false =>
              have E2 : Hid (R = .ok () s3) := by show R = _; rw [E.out]; unfold Xml.remark; rw [hc, e2]; simp only [Xml.Res.then]; rw [if_neg (by simp), hi]; rfl
              clear E
              go_wp2_with fail
              refine WH.out.mono ?_
              rintro e w2 ⟨rfl, r2, g2⟩
              have R2 := Lib.hid r2
              have F2 := Lib.hid (G1.out.trans g2)
              clear r2 g2 WH
              go_wp2_with fail
              refine (CM.out _ R2.out).mono ?_
              rintro e w3 ⟨f3, rfl, r3⟩
              have F3 := Lib.hid (F2.out.trans f3)
              have R3 := Lib.hid r3
              clear f3 r3 CM
              go_wp2_with fail
              refine (IN.out _ R3.out).mono ?_
              rintro e w4 ⟨f4, rfl, r4⟩
              have F4 := Lib.hid (F3.out.trans f4)
              have R4 := Lib.hid r4
              clear f4 r4 IN
              go_wp2_with fail
              go_end0
              exact ⟨F4.out, EndsU.ok E2.out R4.out⟩
end
end Go.Proofs.YteefjmdallpihaaGreatDoor
