/-
  xml: the reader's steps: fullName, comment, declaration.
-/
import Derived.Test.YteefjmdallpihaaGreatDoorXr5
import Derived.Test.YteefjmdallpihaaGreatDoorXmB
namespace Go.Proofs.YteefjmdallpihaaGreatDoor
open Go.RowKit Reply

section
variable {w0 w : World} {C p : Nat} {s : Xml.St} {A : Option Addr} {c : Nat}
set_option maxRecDepth 100000 in
set_option maxHeartbeats 8000000 in
theorem fullX_any (h : RdX w0 C w p s A c) (hl : s.rest.length ≤ 65536) :
    Calls Tryz.prog 41 #[.pointer (some ⟨p, 0, none⟩)] w fun e w' => FrX C p w w' ∧ match Xml.fullName s with
      | .bad n => e = .panicked [{ v := troubleX n, recovered := false }]
      | .ok a s' => e = .returned (.string (S a)) ∧ RdX w0 C w' p s' A c := by
  have N1 := nameX_any h hl
  cases hn : Xml.name s with
  | bad n =>
    have E : Xml.fullName s = .bad n := by unfold Xml.fullName; rw [hn]; rfl
    rw [E]
    rw [hn] at N1
    have N1 := Lib.hid N1
    clear h E hn
    go_enter Tryz.func41, Tryz.ntmps41
    go_wp2_with fail
    refine N1.out.mono ?_
    rintro e w1 ⟨f1, rfl⟩
    exact ⟨rfl, f1, rfl⟩
  | ok a s1 =>
    rw [hn] at N1
    have k1 := Xml.name_ok hn
    have SK := Lib.hid (fun u (q : RdX w0 C u p s1 A c) => skipX_any q [58])
    have N1 := Lib.hid N1
    cases hk : (Xml.skip s1 [58]).1 with
    | false =>
      have E : Xml.fullName s = .ok a (Xml.skip s1 [58]).2 := by unfold Xml.fullName; rw [hn]; simp only [Xml.Res.then]; rw [if_neg (by rw [hk]; simp)]
      rw [E]
      rw [hk] at SK
      clear h E hn k1
      go_enter Tryz.func41, Tryz.ntmps41
      go_wp2_with fail
      refine N1.out.mono ?_
      rintro e w1 ⟨f1, rfl, r1⟩
      have F1 := Lib.hid f1
      have R1 := Lib.hid r1
      clear f1 r1 N1
      go_wp2_with fail
      refine (SK.out _ R1.out).mono ?_
      rintro e w2 ⟨rfl, r2, f2⟩
      have F2 := Lib.hid (F1.out.trans f2)
      have R2 := Lib.hid r2
      clear f2 r2 SK
      go_wp2_with fail
      go_ret
      exact ⟨F2.out, rfl, R2.out⟩
    | true =>
      have k2 := Xml.skip_lt s1 [58] hk
      have N2 : Hid (∀ u, RdX w0 C u p (Xml.skip s1 [58]).2 A c → _) := fun u q => nameX_any (w := u) q (by have : ([58] : Reply.B).length = 1 := rfl; omega)
      cases hm : Xml.name (Xml.skip s1 [58]).2 with
      | bad n =>
        have E : Xml.fullName s = .bad n := by unfold Xml.fullName; rw [hn]; simp only [Xml.Res.then]; rw [if_pos hk, hm]
        rw [E]
        rw [hk] at SK
        rw [hm] at N2
        have z1 : (S a).size ≤ 65536 := by rw [S_size]; omega
        have e1 : ¬ 9223372036854775807 < (S a).size + 1 := by omega
        clear h E hn k1 k2
        go_enter Tryz.func41, Tryz.ntmps41
        go_wp2_with fail
        refine N1.out.mono ?_
        rintro e w1 ⟨f1, rfl, r1⟩
        have F1 := Lib.hid f1
        have R1 := Lib.hid r1
        clear f1 r1 N1
        go_wp2_with fail
        refine (SK.out _ R1.out).mono ?_
        rintro e w2 ⟨rfl, r2, f2⟩
        have F2 := Lib.hid (F1.out.trans f2)
        have R2 := Lib.hid r2
        clear f2 r2 SK
        go_wp2_with fail
        refine (N2.out _ R2.out).mono ?_
        rintro e w3 ⟨f3, rfl⟩
        exact ⟨rfl, F2.out.trans f3, rfl⟩
      | ok m s2 =>
        have E : Xml.fullName s = .ok (a ++ [58] ++ m) s2 := by unfold Xml.fullName; rw [hn]; simp only [Xml.Res.then]; rw [if_pos hk, hm]
        rw [E]
        rw [hk] at SK
        rw [hm] at N2
        have k3 := Xml.name_ok hm
        have z1 : (S a).size ≤ 65536 := by rw [S_size]; omega
        have z2 : (S m).size ≤ 65536 := by rw [S_size]; have : ([58] : Reply.B).length = 1 := rfl; omega
        have T : S a ++ ⟨#[58]⟩ ++ S m = S (a ++ [58] ++ m) := by rw [show (⟨#[58]⟩ : ByteArray) = S [58] from rfl, S_append, S_append]
        show Calls _ _ _ _ fun e w' => FrX C p w w' ∧ (e = .returned (.string (S (a ++ [58] ++ m))) ∧ RdX w0 C w' p s2 A c)
        rw [← T]
        have e1 : ¬ 9223372036854775807 < (S a).size + 1 := by omega
        have e2 : ¬ 9223372036854775807 < (S a).size + 1 + (S m).size := by omega
        clear h E hn k1 k2 k3 T
        go_enter Tryz.func41, Tryz.ntmps41
        go_wp2_with fail
        refine N1.out.mono ?_
        rintro e w1 ⟨f1, rfl, r1⟩
        have F1 := Lib.hid f1
        have R1 := Lib.hid r1
        clear f1 r1 N1
        go_wp2_with fail
        refine (SK.out _ R1.out).mono ?_
        rintro e w2 ⟨rfl, r2, f2⟩
        have F2 := Lib.hid (F1.out.trans f2)
        have R2 := Lib.hid r2
        clear f2 r2 SK
        go_wp2_with fail
        refine (N2.out _ R2.out).mono ?_
        rintro e w3 ⟨f3, rfl, r3⟩
        have F3 := Lib.hid (F2.out.trans f3)
        have R3 := Lib.hid r3
        clear f3 r3 N2
        go_wp2_with fail
        go_ret
        exact ⟨F3.out, rfl, R3.out⟩
set_option maxRecDepth 100000 in
set_option maxHeartbeats 8000000 in
theorem commentX_any (h : RdX w0 C w p s A c) (hl : s.rest.length ≤ 65536) :
    Calls Tryz.prog 38 #[.pointer (some ⟨p, 0, none⟩)] w fun e w' => FrX C p w w' ∧ match Xml.comment s with
      | .bad n => e = .panicked [{ v := troubleX n, recovered := false }]
      | .ok b s' => e = .returned (.bool b) ∧ RdX w0 C w' p s' A c := by
  have SK := Lib.hid (skipX_any h Xml.tCom)
  rw [show S Xml.tCom = ⟨#[60, 33, 45, 45]⟩ from rfl] at SK
  cases hk : (Xml.skip s Xml.tCom).1 with
  | false =>
    have E : Xml.comment s = .ok false s := by unfold Xml.comment; rw [if_neg (by rw [hk]; simp)]
    have e2 := Xml.skip_no s Xml.tCom hk
    rw [E]
    rw [hk, e2] at SK
    clear h E e2
    go_enter Tryz.func38, Tryz.ntmps38
    go_wp2_with fail
    refine SK.out.mono ?_
    rintro e w1 ⟨rfl, r1, f1⟩
    have F1 := Lib.hid f1
    have R1 := Lib.hid r1
    clear f1 r1 SK
    go_wp2_with fail
    go_ret
    exact ⟨F1.out, rfl, R1.out⟩
  | true =>
    have k2 := Xml.skip_lt s Xml.tCom hk
    have UP : Hid (∀ u, RdX w0 C u p (Xml.skip s Xml.tCom).2 A c → _) := fun u q => uptoX_any (w := u) q (by omega) [45, 45]
    rw [hk] at SK
    cases hu : Xml.upto (Xml.skip s Xml.tCom).2 [45, 45] with
    | bad n =>
      have E : Xml.comment s = .bad n := by unfold Xml.comment; rw [if_pos hk, hu]; rfl
      rw [E]
      rw [hu] at UP
      clear h E hu
      go_enter Tryz.func38, Tryz.ntmps38
      go_wp2_with fail
      refine SK.out.mono ?_
      rintro e w1 ⟨rfl, r1, f1⟩
      have F1 := Lib.hid f1
      have R1 := Lib.hid r1
      clear f1 r1 SK
      go_wp2_with fail
      refine (UP.out _ R1.out).mono ?_
      rintro e w2 ⟨f2, rfl⟩
      exact ⟨rfl, F1.out.trans f2, rfl⟩
    | ok a s1 =>
      rw [hu] at UP
      have ND : Hid (∀ u, RdX w0 C u p s1 A c → _) := fun u q => needX_any (w := u) q [62]
      cases hn : Xml.need s1 [62] with
      | bad n =>
        have E : Xml.comment s = .bad n := by unfold Xml.comment; rw [if_pos hk, hu]; simp only [Xml.Res.then]; rw [hn]
        rw [E]
        rw [hn] at ND
        clear h E hu
        go_enter Tryz.func38, Tryz.ntmps38
        go_wp2_with fail
        refine SK.out.mono ?_
        rintro e w1 ⟨rfl, r1, f1⟩
        have F1 := Lib.hid f1
        have R1 := Lib.hid r1
        clear f1 r1 SK
        go_wp2_with fail
        refine (UP.out _ R1.out).mono ?_
        rintro e w2 ⟨f2, rfl, r2⟩
        have F2 := Lib.hid (F1.out.trans f2)
        have R2 := Lib.hid r2
        clear f2 r2 UP
        go_wp2_with fail
        refine (ND.out _ R2.out).mono ?_
        rintro e w3 ⟨f3, rfl⟩
        exact ⟨rfl, F2.out.trans f3, rfl⟩
      | ok u s2 =>
        have E : Xml.comment s = .ok true s2 := by unfold Xml.comment; rw [if_pos hk, hu]; simp only [Xml.Res.then]; rw [hn]
        rw [E]
        rw [hn] at ND
        clear h E hu
        go_enter Tryz.func38, Tryz.ntmps38
        go_wp2_with fail
        refine SK.out.mono ?_
        rintro e w1 ⟨rfl, r1, f1⟩
        have F1 := Lib.hid f1
        have R1 := Lib.hid r1
        clear f1 r1 SK
        go_wp2_with fail
        refine (UP.out _ R1.out).mono ?_
        rintro e w2 ⟨f2, rfl, r2⟩
        have F2 := Lib.hid (F1.out.trans f2)
        have R2 := Lib.hid r2
        clear f2 r2 UP
        go_wp2_with fail
        refine (ND.out _ R2.out).mono ?_
        rintro e w3 ⟨f3, rfl, r3⟩
        have F3 := Lib.hid (F2.out.trans f3)
        have R3 := Lib.hid r3
        clear f3 r3 ND
        go_wp2_with fail
        go_ret
        exact ⟨F3.out, rfl, R3.out⟩
end
end Go.Proofs.YteefjmdallpihaaGreatDoor
