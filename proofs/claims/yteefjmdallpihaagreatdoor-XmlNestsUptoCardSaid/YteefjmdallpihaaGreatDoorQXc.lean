/-
  xml: strconv.ParseUint; numbered.
-/
import Derived.Test.YteefjmdallpihaaGreatDoorQXb
import Derived.Test.YteefjmdallpihaaGreatDoorLaid2
namespace Go.Proofs.YteefjmdallpihaaGreatDoor
open Go.RowKit Reply Go.Shelf

/-- What strconv.ParseUint answers. -/
def PuO (base : Nat) (l : Reply.B) (e : Ending) : Prop :=
  (∃ v : Int, 0 ≤ v ∧ v < 18446744073709551616 ∧ e = .returned (.tuple #[.int .u64 v, .nilIface]) ∧ (l.length ≤ 9 → l ≠ [] ∧ ∃ n : Nat, Xml.numOf base 0 l = some n ∧ v = (n : Int))) ∨
  (∃ (v : Int) (t : TypeId) (N : Nat), e = .returned (.tuple #[.int .u64 v, .iface t (.pointer (some ⟨N, 0, none⟩))]) ∧ (l.length ≤ 9 → l = [] ∨ Xml.numOf base 0 l = none))
set_option maxRecDepth 100000 in
set_option maxHeartbeats 4000000 in
theorem puX_any (w : World) (E : EnvX w) (base : Nat) (hb : base = 10 ∨ base = 16) (l : Reply.B) (hl : l.length ≤ 65536) :
    Calls Tryz.prog 111 #[.string (S l), .int .i64 (base : Int), .int .i64 64] w fun e w' => PuO base l e ∧ Below w.heap.size w w' := by
  have IP : Hid (Calls Tryz.prog 118 #[.string (S l), .int .i64 (base : Int), .int .i64 64] w fun e w' => PuE base l e ∧ Below w.heap.size w w') := by
    rcases hb with rfl | rfl
    · exact ipuX10 w l hl
    · exact ipuX16 w l hl
  have HE := Lib.hid E
  have LS : Hid ((S l).size ≤ 281474976710656) := by rw [S_size]; show _ ≤ _; omega
  obtain ⟨s, hs⟩ : ∃ x, x = S l := ⟨_, rfl⟩
  rw [← hs] at IP LS ⊢
  clear hb E hl hs
  go_enter Tryz.func111, Tryz.ntmps111
  go_wp2_with fail
  refine IP.out.mono ?_
  rintro e w1 ⟨h, b1⟩
  have B1 := Lib.hid b1
  have E1 := Lib.hid (HE.out.below b1)
  clear b1 IP
  rcases h with ⟨v, h0, h1, rfl, h2⟩ | ⟨v, k, hk, rfl, h2⟩
  · have H2 := Lib.hid h2
    have H1 := Lib.hid h1
    have H0 := Lib.hid h0
    clear h0 h1 h2
    go_wp2_with fail
    go_ret2
    exact ⟨.inl ⟨v, H0.out, H1.out, rfl, H2.out⟩, B1.out⟩
  · have H2 := Lib.hid h2
    clear h2
    obtain ⟨e1, h3, h4⟩ := E1.out.syn
    obtain ⟨e2, h5, h6⟩ := E1.out.rng
    rcases hk with rfl | rfl
    · have TE := Lib.hid (fun fn => Tryz.strconv_toError_range fn s (base : Int) 64 e2 w1 LS.out h5 h6)
      clear h3 h4 h5 h6
      go_wp2_with fail
      refine (TE.out _).mono ?_
      rintro e w2 ⟨N, rfl, _, _, b2⟩
      have B2 := Lib.hid (B1.out.trans (b2.mono B1.out.size))
      clear b2 TE
      go_wp2_with fail
      go_ret2
      exact ⟨.inr ⟨_, _, _, rfl, H2.out⟩, B2.out⟩
    · have TE := Lib.hid (fun fn => Tryz.strconv_toError_syntax fn s (base : Int) 64 e1 w1 LS.out h3 h4)
      clear h3 h4 h5 h6
      go_wp2_with fail
      refine (TE.out _).mono ?_
      rintro e w2 ⟨N, rfl, _, _, b2⟩
      have B2 := Lib.hid (B1.out.trans (b2.mono B1.out.size))
      clear b2 TE
      go_wp2_with fail
      go_ret2
      exact ⟨.inr ⟨_, _, _, rfl, H2.out⟩, B2.out⟩
theorem numVal_bad {base : Nat} {l : Reply.B} (h : l.length ≤ 9 → l = [] ∨ Xml.numOf base 0 l = none) : Xml.numVal base l = none := by
  unfold Xml.numVal
  by_cases h9 : l = [] ∨ 9 < l.length
  · rw [if_pos h9]
  · rw [if_neg h9]
    rcases h (by omega) with h | h
    · exact absurd (.inl h) h9
    · rw [h]
theorem numVal_some {base n : Nat} {l : Reply.B} (h9 : l.length ≤ 9) (h0 : l ≠ []) (h : Xml.numOf base 0 l = some n) : Xml.numVal base l = if n ≤ 1114111 ∧ Xml.letter n = true then some n else none := by
  unfold Xml.numVal
  rw [if_neg (by rintro (h | h) <;> first | exact h0 h | omega), h]
theorem EndsN.bad {r : Option Nat} (h : r = none) : EndsN r (.panicked [{ v := troubleX 30, recovered := false }]) := by rw [h]; rfl
theorem EndsN.good {r : Option Nat} {n : Nat} (h : r = some n) : EndsN r (.returned (.int .i32 (n : Int))) := by rw [h]; rfl
set_option maxRecDepth 100000 in
set_option maxHeartbeats 8000000 in
theorem numX : NumX := by
  intro u base ds E hb hl
  have PU := Lib.hid (puX_any u E base hb ds hl)
  have LS := S_size ds
  obtain ⟨R, hR⟩ : ∃ x, x = Xml.numVal base ds := ⟨_, rfl⟩
  rw [← hR]
  have HR := Lib.hid hR
  obtain ⟨s, hs⟩ : ∃ x, x = S ds := ⟨_, rfl⟩
  rw [← hs] at PU LS ⊢
  have L9 : decide ((s.size : Int) ≤ 9) = decide (ds.length ≤ 9) := by
    rw [Bool.eq_iff_iff, decide_eq_true_eq, decide_eq_true_eq, LS]
    omega
  clear E hb hR hs LS hl
  go_enter Tryz.func101, Tryz.ntmps101
  go_wp2_with fail
  refine PU.out.mono ?_
  rintro e w1 ⟨h, b1⟩
  have B1 := Lib.hid b1
  clear b1 PU
  rcases h with ⟨v, h0, h1, rfl, h2⟩ | ⟨v, t, N, rfl, h2⟩
  · obtain ⟨n, rfl⟩ : ∃ n : Nat, v = (n : Int) := ⟨v.toNat, by omega⟩
    by_cases h9 : ds.length ≤ 9
    · obtain ⟨h3, m, h4, h5⟩ := h2 h9
      obtain rfl : n = m := by omega
      have V : Hid (R = if n ≤ 1114111 ∧ Xml.letter n = true then some n else none) := HR.out.trans (numVal_some h9 h3 h4)
      rw [decide_eq_true h9] at L9
      clear h2 h3 h4 h5 h9
      by_cases hn : n ≤ 1114111
      · have z1 : decide ((n : Int) ≤ 1114111) = true := decide_eq_true (by omega)
        have LE := Lib.hid (fun u => letter_any u n hn)
        go_wp2_with fail
        refine (demand_ok _ _).mono ?_
        rintro e wx ⟨rfl, rfl⟩
        go_wp2_with fail
        refine (LE.out _).mono ?_
        rintro e wx ⟨rfl, rfl⟩
        cases hq : Xml.letter n with
        | false =>
          have F : Hid (R = none) := V.out.trans (if_neg (fun h => by rw [hq] at h; cases h.2))
          clear hq LE
          go_wp2_with fail
          refine (demand_bad _ _).mono ?_
          rintro e wx ⟨rfl, rfl⟩
          exact ⟨rfl, EndsN.bad F.out, B1.out⟩
        | true =>
          have F : Hid (R = some n) := V.out.trans (if_pos ⟨hn, hq⟩)
          clear hq LE
          go_wp2_with fail
          refine (demand_ok _ _).mono ?_
          rintro e wx ⟨rfl, rfl⟩
          go_wp2_with fail
          go_ret
          exact ⟨EndsN.good F.out, B1.out⟩
      · have z1 : decide ((n : Int) ≤ 1114111) = false := decide_eq_false (by omega)
        have F : Hid (R = none) := V.out.trans (if_neg (fun h => hn h.1))
        clear hn
        go_wp2_with fail
        refine (demand_bad _ _).mono ?_
        rintro e wx ⟨rfl, rfl⟩
        exact ⟨rfl, EndsN.bad F.out, B1.out⟩
    · rw [decide_eq_false h9] at L9
      have F : Hid (R = none) := HR.out.trans (numVal_bad (fun h => absurd h h9))
      clear h2 h9
      go_wp2_with fail
      refine (demand_bad _ _).mono ?_
      rintro e wx ⟨rfl, rfl⟩
      exact ⟨rfl, EndsN.bad F.out, B1.out⟩
  · have F : Hid (R = none) := HR.out.trans (numVal_bad h2)
    clear h2
    go_wp2_with fail
    refine (demand_bad _ _).mono ?_
    rintro e wx ⟨rfl, rfl⟩
    exact ⟨rfl, EndsN.bad F.out, B1.out⟩
end Go.Proofs.YteefjmdallpihaaGreatDoor
