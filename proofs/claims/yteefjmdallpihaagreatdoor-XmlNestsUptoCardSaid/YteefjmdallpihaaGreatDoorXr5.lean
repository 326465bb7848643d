/-
  xml: the reader's steps: upto, white, name, fullName.
-/
import Derived.Test.YteefjmdallpihaaGreatDoorXr4
import Derived.Shelf.Strings.SlTrimAscii
namespace Go.Proofs.YteefjmdallpihaaGreatDoor
open Go.RowKit Reply Go.Shelf

theorem below_drewNX {B : Nat} {w w' : World} (h : Below B w w') (n : Nat) : Below B w (w'.drewN n) := ⟨h.os, h.tape, h.output, h.size, h.block⟩
theorem cutX_any (w : World) (E : EnvX w) (l p : Reply.B) (hl : l.length < 4294967281) :
    Calls Tryz.prog 56 #[.string (S l), .string (S p)] w fun e w' => e = .returned (.tuple #[.string (S (Lib.cut l p).1), .string (S (Lib.cut l p).2.1), .bool (Lib.cut l p).2.2]) ∧ Below w.heap.size w w' := by
  obtain ⟨m, hm⟩ := E.mx
  refine (Tryz.strings_Cut (S l) (S p) m w (by rw [S_size]; exact hl) hm).mono ?_
  rintro e w' ⟨rfl, n, rfl⟩
  exact ⟨rfl, below_drewNX (Below.refl _ _) n⟩
theorem trimleftX_any (w : World) (l : Reply.B) :
    Calls Tryz.prog 55 #[.string (S l), .string ⟨#[9, 10, 13, 32]⟩] w fun e w' => e = .returned (.string (S (Lib.trimLeftS l Xml.whites))) ∧ Below w.heap.size w w' := by
  refine (Any.strings_TrimLeft_laid Tryz.laysTrimLeft (by kernel_rfl) (S l) (S Xml.whites) w (by rw [S_size]; decide) (ascii_of_all (by decide))).mono ?_
  rintro e w' ⟨rfl, hb⟩
  exact ⟨rfl, hb⟩
section
variable {w0 w : World} {C p : Nat} {s : Xml.St} {A : Option Addr} {c : Nat}
set_option maxRecDepth 100000 in
set_option maxHeartbeats 4000000 in
theorem uptoX_any (h : RdX w0 C w p s A c) (hl : s.rest.length ≤ 65536) (t : Reply.B) :
    Calls Tryz.prog 37 #[.pointer (some ⟨p, 0, none⟩), .string (S t)] w fun e w' => FrX C p w w' ∧ match Xml.upto s t with
      | .bad n => e = .panicked [{ v := troubleX n, recovered := false }]
      | .ok a s' => e = .returned (.string (S a)) ∧ RdX w0 C w' p s' A c := by
  have c0 : w.cell? ⟨p, 0, none⟩ = some (.string (S s.rest)) := h.blk.cell 0
  have CU := Lib.hid (cutX_any w h.envw s.rest t (by omega))
  have H := Lib.hid h
  cases hp : (Lib.cut s.rest t).2.2 with
  | true =>
    have E : Xml.upto s t = .ok (Lib.cut s.rest t).1 { s with rest := (Lib.cut s.rest t).2.1 } := by unfold Xml.upto; rw [if_pos hp]
    rw [E]
    rw [hp] at CU
    obtain ⟨a, ha⟩ : ∃ x, x = (Lib.cut s.rest t).1 := ⟨_, rfl⟩
    obtain ⟨b, hb⟩ : ∃ x, x = (Lib.cut s.rest t).2.1 := ⟨_, rfl⟩
    rw [← ha, ← hb] at CU ⊢
    clear h E hp ha hb
    go_enter Tryz.func37, Tryz.ntmps37
    go_wp2_with fail
    refine CU.out.mono ?_
    rintro e w1 ⟨rfl, hb1⟩
    have R1 := Lib.hid (H.out.under hb1)
    have F1 : Hid (FrX C p w w1) := FrX.under hb1
    have y0 : w1.frozen? ⟨p, 0, none⟩ = false := R1.out.blk.frozen 0
    have c1 : w1.cell? ⟨p, 0, none⟩ = some (.string (S s.rest)) := R1.out.blk.cell 0
    clear hb1 CU c0
    go_wp2_with fail
    refine (demand_ok _ _).mono ?_
    rintro e w2 ⟨rfl, rfl⟩
    go_wp2_with fail
    go_ret
    exact ⟨F1.out.set_ 0 _, rfl, R1.out.rest_ b⟩
  | false =>
    have E : Xml.upto s t = .bad 30 := by unfold Xml.upto; rw [if_neg (by rw [hp]; simp)]
    rw [E]
    rw [hp] at CU
    clear h E hp
    go_enter Tryz.func37, Tryz.ntmps37
    go_wp2_with fail
    refine CU.out.mono ?_
    rintro e w1 ⟨rfl, hb1⟩
    have F1 : Hid (FrX C p w w1) := FrX.under hb1
    clear hb1 CU c0
    go_wp2_with fail
    refine (demand_bad _ _).mono ?_
    rintro e w2 ⟨rfl, rfl⟩
    exact ⟨rfl, F1.out, rfl⟩
set_option maxRecDepth 100000 in
set_option maxHeartbeats 4000000 in
theorem whiteX_any (h : RdX w0 C w p s A c) :
    Calls Tryz.prog 36 #[.pointer (some ⟨p, 0, none⟩)] w fun e w' => e = .returned (.bool (Xml.white s).1) ∧ RdX w0 C w' p (Xml.white s).2 A c ∧ FrX C p w w' := by
  have c0 : w.cell? ⟨p, 0, none⟩ = some (.string (S s.rest)) := h.blk.cell 0
  have TL := Lib.hid (trimleftX_any w s.rest)
  have H := Lib.hid h
  obtain ⟨b, hb⟩ : ∃ x, x = Lib.trimLeftS s.rest Xml.whites := ⟨_, rfl⟩
  have T : Hid ((Xml.white s).1 = decide (b.length < s.rest.length) ∧ (Xml.white s).2 = { s with rest := b }) := by rw [hb]; exact ⟨rfl, rfl⟩
  rw [T.out.1, T.out.2]
  rw [← hb] at TL
  obtain ⟨t, ht⟩ : ∃ x, x = S s.rest := ⟨_, rfl⟩
  obtain ⟨t2, ht2⟩ : ∃ x, x = S b := ⟨_, rfl⟩
  have tz : t.size = s.rest.length := by rw [ht, S_size]
  have tz2 : t2.size = b.length := by rw [ht2, S_size]
  have HT2 := Lib.hid ht2
  rw [← ht] at c0 TL
  rw [← ht2] at TL
  rw [← tz, ← tz2]
  have HT := Lib.hid ht
  clear h T hb ht ht2 tz tz2
  go_enter Tryz.func36, Tryz.ntmps36
  go_wp2_with fail
  refine TL.out.mono ?_
  rintro e w1 ⟨rfl, hb1⟩
  have R1 := Lib.hid (H.out.under hb1)
  have F1 : Hid (FrX C p w w1) := FrX.under hb1
  have y0 : w1.frozen? ⟨p, 0, none⟩ = false := R1.out.blk.frozen 0
  have c1 : w1.cell? ⟨p, 0, none⟩ = some (.string t) := by rw [HT.out]; exact R1.out.blk.cell 0
  have FIN : Hid (RdX w0 C (w1.setCell ⟨p, 0, none⟩ (.string t2)) p { s with rest := b } A c ∧ FrX C p w (w1.setCell ⟨p, 0, none⟩ (.string t2))) := ⟨by rw [HT2.out]; exact R1.out.rest_ b, F1.out.set_ 0 _⟩
  clear hb1 TL c0
  go_wp2_with fail
  go_ret
  exact ⟨by simp, FIN.out⟩
set_option maxRecDepth 100000 in
set_option maxHeartbeats 4000000 in
theorem nameX_any (h : RdX w0 C w p s A c) (hl : s.rest.length ≤ 65536) :
    Calls Tryz.prog 58 #[.pointer (some ⟨p, 0, none⟩)] w fun e w' => FrX C p w w' ∧ match Xml.name s with
      | .bad n => e = .panicked [{ v := troubleX n, recovered := false }]
      | .ok a s' => e = .returned (.string (S a)) ∧ RdX w0 C w' p s' A c := by
  have c0 : w.cell? ⟨p, 0, none⟩ = some (.string (S s.rest)) := h.blk.cell 0
  have NL := Lib.hid (namelen_any w s.rest (by omega))
  have TK := Lib.hid (takeX_any h (Xml.nameLen s.rest) (nameLen_le _))
  have E : Hid (Xml.name s = if Xml.nameLen s.rest = 0 then .bad 30 else .ok (s.rest.take (Xml.nameLen s.rest)) { s with rest := s.rest.drop (Xml.nameLen s.rest) }) := rfl
  have T : Hid ((Xml.take s (Xml.nameLen s.rest)).1 = s.rest.take (Xml.nameLen s.rest) ∧ (Xml.take s (Xml.nameLen s.rest)).2 = { s with rest := s.rest.drop (Xml.nameLen s.rest) }) := ⟨rfl, rfl⟩
  rw [T.out.1, T.out.2] at TK
  rw [E.out]
  obtain ⟨n, hn⟩ : ∃ n, n = Xml.nameLen s.rest := ⟨_, rfl⟩
  rw [← hn] at NL TK ⊢
  clear h E T hn
  by_cases h0 : n = 0
  · rw [if_pos h0]
    subst h0
    go_enter Tryz.func58, Tryz.ntmps58
    go_wp2_with fail
    refine NL.out.mono ?_
    rintro e w1 ⟨rfl, rfl⟩
    clear NL
    go_wp2_with fail
    refine (demand_bad _ _).mono ?_
    rintro e w2 ⟨rfl, rfl⟩
    exact ⟨rfl, FrX.refl _ _ _, rfl⟩
  · rw [if_neg h0]
    have z0 : 0 < n := by omega
    clear h0
    go_enter Tryz.func58, Tryz.ntmps58
    go_wp2_with fail
    refine NL.out.mono ?_
    rintro e w1 ⟨rfl, rfl⟩
    clear NL
    go_wp2_with fail
    refine (demand_ok _ _).mono ?_
    rintro e w2 ⟨rfl, rfl⟩
    go_wp2_with fail
    refine TK.out.mono ?_
    rintro e w3 ⟨rfl, r3, f3⟩
    have R3 := Lib.hid r3
    have F3 := Lib.hid f3
    clear TK r3 f3
    go_wp2_with fail
    go_ret
    exact ⟨F3.out, rfl, R3.out⟩
end
end Go.Proofs.YteefjmdallpihaaGreatDoor
