/-
  xml: text, walked. · xml: value. · xml: value, walked. · xml: attributes. · xml: rows of nodes, trees in memory. · xml: how much elements and contents leave; what their calls end with.
-/
import Derived.Test.YteefjmdallpihaaGreatDoorQX3
namespace Go.Proofs.YteefjmdallpihaaGreatDoor
open Go.RowKit Reply Go.Shelf

section
variable {w0 w : World} {C p : Nat} {s : Xml.St} {A : Option Addr} {c : Nat}
set_option maxRecDepth 100000 in
set_option maxHeartbeats 16000000 in
theorem textX_any (FO : FoldX) (NU : NumX) (IX : IdxX) (RU : RuneX) (h : RdX w0 C w p s A c) (hl : s.rest.length ≤ 65536) (f : Nat) (hf : s.rest.length < f) :
    Calls Tryz.prog 63 #[.pointer (some ⟨p, 0, none⟩)] w fun e w' => FrX C p w w' ∧ EndsS w0 C p A c (Xml.text f s []) e w' := by
  have HF := Lib.hid FO
  have HN := Lib.hid NU
  have HI := Lib.hid IX
  have HR := Lib.hid RU
  obtain ⟨R, hR⟩ : ∃ x, x = Xml.text f s [] := ⟨_, rfl⟩
  have lo := Lib.hid h.bel.size
  have M0 : Hid (TxI w0 C w p A c w.heap.size R (w.alloc (.cells #[.pointer none, .slice none 0 0] 61))) :=
    ⟨s, f, [], ⟨h.under ((Below.refl _ _).alloc (Nat.le_refl _) _), BldU.new w _ _ rfl (Nat.le_refl _), FrX.under ((Below.refl _ _).alloc (Nat.le_refl _) _), lo.out⟩, hf, by simp; omega, hR⟩
  rw [← hR]
  obtain ⟨b, hb⟩ : ∃ x, x = w.heap.size := ⟨_, rfl⟩
  rw [← hb] at M0
  have HB := Lib.hid hb
  clear h hl hf hR FO NU IX RU hb
  go_enter Tryz.func63, Tryz.ntmps63
  go_wp2_with fail
  rw [← HB.out]
  go_loopw [] (fun wr => Hid (TxI w0 C w p A c b R wr)) (fun wr => restN wr p)
  case atStart => exact M0
  case round =>
    clear M0
    obtain ⟨s1, f1, l1, T1, m1, m2, hR⟩ := hrel
    obtain ⟨f2, rfl⟩ : ∃ k, f1 = k + 1 := ⟨f1 - 1, by omega⟩
    have T1 := Lib.hid T1
    have RN := Lib.hid (restN_is T1.out.rd)
    have E := Lib.hid hR
    have q1 : s1.rest.length ≤ 65536 := by omega
    have CM := Lib.hid (commentX_any T1.out.rd q1)
    clear hR
    go_wp2_with fail
    refine CM.out.mono ?_
    rintro e w2 ⟨f2', X2⟩
    have G2 := Lib.hid f2'
    clear f2' CM
    cases hc : Xml.comment s1 with
    | bad n =>
      rw [hc] at X2
      obtain rfl := X2
      exact ⟨rfl, T1.out.fr.trans G2.out, EndsS.bad (E.out.trans (Xml.text_bad (Xml.remark_bad hc))) _⟩
    | ok b1 s2 =>
      rw [hc] at X2
      obtain ⟨rfl, r2⟩ := X2
      have k2 := Xml.comment_ok hc
      have T2 := Lib.hid (T1.out.read r2 G2.out)
      clear r2 G2
      cases b1 with
      | true =>
        have k3 := k2.2.1 rfl
        have M9 : Hid (TxI w0 C w p A c b R w2) := ⟨s2, f2, l1, T2.out, by omega, by omega, E.out.trans (Xml.text_rem (Xml.remark_com hc))⟩
        have MS : Hid (restN w2 p < restN wr p) := by show _ < _; rw [RN.out, restN_is T2.out.rd]; omega
        go_wp2_with fail
        go_roundw
        case rel => exact M9
        case measure => exact MS.out
      | false =>
        have e2 := k2.2.2.1 rfl
        have hr := Xml.remark_ins hc
        subst e2
        clear hc k2
        have IN := Lib.hid (instrX_any HF.out T2.out.rd q1)
        go_wp2_with fail
        refine IN.out.mono ?_
        rintro e w3 ⟨f3, X3⟩
        have G3 := Lib.hid f3
        clear f3 IN
        cases hi : Xml.instruction s2 with
        | bad n =>
          rw [hi] at X3
          obtain rfl := X3
          exact ⟨rfl, T2.out.fr.trans G3.out, EndsS.bad (E.out.trans (Xml.text_bad (hr.trans hi))) _⟩
        | ok b2 s3 =>
          rw [hi] at X3
          obtain ⟨rfl, r3⟩ := X3
          have k3 := Xml.instruction_ok hi
          have T3 := Lib.hid (T2.out.read r3 G3.out)
          clear r3 G3
          cases b2 with
          | true =>
            have k4 := k3.2.1 rfl
            have M9 : Hid (TxI w0 C w p A c b R w3) := ⟨s3, f2, l1, T3.out, by omega, by omega, E.out.trans (Xml.text_rem (hr.trans hi))⟩
            have MS : Hid (restN w3 p < restN wr p) := by show _ < _; rw [RN.out, restN_is T3.out.rd]; omega
            go_wp2_with fail
            go_roundw
            case rel => exact M9
            case measure => exact MS.out
          | false =>
            have e3 := k3.2.2.1 rfl
            subst e3
            have E := Lib.hid (E.out.trans (Xml.text_else (hr.trans hi)))
            clear hr hi k3
            have SK := Lib.hid (skipX_any T3.out.rd Xml.tCdata)
            rw [show S Xml.tCdata = ⟨#[60, 33, 91, 67, 68, 65, 84, 65, 91]⟩ from rfl] at SK
            go_wp2_with fail
            refine SK.out.mono ?_
            rintro e w4 ⟨rfl, r4, f4⟩
            have T4 := Lib.hid (T3.out.read r4 f4)
            clear r4 f4 SK
            cases hk : (Xml.skip s3 Xml.tCdata).1 with
            | true =>
              have k4 := Xml.skip_lt s3 Xml.tCdata hk
              rw [if_pos hk] at E
              clear hk
              have UP := Lib.hid (uptoX_any T4.out.rd (by omega) Xml.tCdataEnd)
              rw [show S Xml.tCdataEnd = ⟨#[93, 93, 62]⟩ from rfl] at UP
              go_wp2_with fail
              refine UP.out.mono ?_
              rintro e w5 ⟨f5, X5⟩
              have G5 := Lib.hid f5
              clear f5 UP
              cases hu : Xml.upto (Xml.skip s3 Xml.tCdata).2 Xml.tCdataEnd with
              | bad n =>
                rw [hu] at X5 E
                obtain rfl := X5
                exact ⟨rfl, T4.out.fr.trans G5.out, EndsS.bad (E.out.trans rfl) _⟩
              | ok a s5 =>
                rw [hu] at X5 E
                obtain ⟨rfl, r5⟩ := X5
                have k5 := Xml.upto_ok hu
                have T5 := Lib.hid (T4.out.read r5 G5.out)
                have e9 : Xml.tCdata.length = 9 := rfl
                have E5 : Hid (R = Xml.text f2 s5 (l1 ++ Xml.unify a)) := E.out
                have ua := unify_le a
                clear r5 G5 E hu
                have UN := Lib.hid (unifyX_any w5 T5.out.rd.envw a (by omega))
                go_wp2_with fail
                refine UN.out.mono ?_
                rintro e w6 ⟨rfl, b6⟩
                have T6 := Lib.hid (T5.out.under b6)
                clear b6 UN
                have WS := Lib.hid (wstringU w.heap.size b l1 (Xml.unify a) w6 T6.out.bl (by omega) T6.out.size)
                go_wp2_with fail
                refine WS.out.mono ?_
                rintro e w7 ⟨⟨v, rfl⟩, h7, b7, k7⟩
                have T7 := Lib.hid (T6.out.say h7 b7 k7)
                clear h7 b7 k7 WS
                have M9 : Hid (TxI w0 C w p A c b R w7) := ⟨s5, f2, l1 ++ Xml.unify a, T7.out, by omega, by simp only [List.length_append]; omega, E5.out⟩
                have MS : Hid (restN w7 p < restN wr p) := by show _ < _; rw [RN.out, restN_is T7.out.rd]; omega
                go_wp2_with fail
                go_roundw
                case rel => exact M9
                case measure => exact MS.out
            | false =>
              have e4 := Xml.skip_no s3 Xml.tCdata hk
              rw [if_neg (by rw [hk]; simp)] at E
              rw [e4] at T4
              clear hk e4
              have SK := Lib.hid (skipX_any T4.out.rd [38])
              rw [show S [38] = ⟨#[38]⟩ from rfl] at SK
              go_wp2_with fail
              refine SK.out.mono ?_
              rintro e w5 ⟨rfl, r5, f5⟩
              have T5 := Lib.hid (T4.out.read r5 f5)
              clear r5 f5 SK
              cases hk : (Xml.skip s3 [38]).1 with
              | true =>
                have k4 := Xml.skip_lt s3 [38] hk
                rw [if_pos hk] at E
                clear hk
                have RF := Lib.hid (refX_any HN.out T5.out.rd (by simp only [List.length_singleton] at k4; omega))
                go_wp2_with fail
                refine RF.out.mono ?_
                rintro e w6 ⟨f6, X6⟩
                have G6 := Lib.hid f6
                clear f6 RF
                cases hu : Xml.reference (Xml.skip s3 [38]).2 with
                | bad n =>
                  rw [hu] at X6 E
                  obtain rfl := X6
                  exact ⟨rfl, T5.out.fr.trans G6.out, EndsS.bad (E.out.trans rfl) _⟩
                | ok a s6 =>
                  rw [hu] at X6 E
                  obtain ⟨rfl, r6⟩ := X6
                  have k5 := Xml.reference_ok hu
                  have kl := Xml.reference_letter hu
                  have T6 := Lib.hid (T5.out.read r6 G6.out)
                  have E5 : Hid (R = Xml.text f2 s6 (l1 ++ Xml.utf8 a)) := E.out
                  have ua := Xml.utf8_le a
                  clear r6 G6 E hu
                  simp only [List.length_singleton] at k4
                  have WS := Lib.hid (HR.out w.heap.size b l1 a w6 T6.out.bl (by omega) T6.out.size kl)
                  go_wp2_with fail
                  refine WS.out.mono ?_
                  rintro e w7 ⟨⟨v, rfl⟩, h7, b7, k7⟩
                  have T7 := Lib.hid (T6.out.say h7 b7 k7)
                  clear h7 b7 k7 WS
                  have M9 : Hid (TxI w0 C w p A c b R w7) := ⟨s6, f2, l1 ++ Xml.utf8 a, T7.out, by omega, by simp only [List.length_append]; omega, E5.out⟩
                  have MS : Hid (restN w7 p < restN wr p) := by show _ < _; rw [RN.out, restN_is T7.out.rd]; omega
                  go_wp2_with fail
                  go_roundw
                  case rel => exact M9
                  case measure => exact MS.out
              | false =>
                have e5 := Xml.skip_no s3 [38] hk
                rw [if_neg (by rw [hk]; simp)] at E
                rw [e5] at T5
                have nf : Hid (Lib.hasPrefix s3.rest [38] = false) := hk
                clear hk e5
                have c5 : w5.cell? ⟨p, 0, none⟩ = some (.string (S s3.rest)) := T5.out.rd.blk.cell 0
                rcases hs : s3.rest with _ | ⟨ch, r⟩
                · rw [hs] at c5
                  have g1 : (S []).toList.isEmpty = true := by rw [emptyX]; rfl
                  have E5 : Hid (R = .ok l1 s3) := E.out.trans (if_pos (.inl hs))
                  clear E
                  obtain ⟨t, ht⟩ : ∃ x, x = S [] := ⟨_, rfl⟩
                  rw [← ht] at c5 g1
                  clear ht
                  have TX := Lib.hid (textXU w.heap.size b l1 w5 T5.out.bl T5.out.size)
                  go_wp2_with fail
                  refine TX.out.mono ?_
                  rintro e w6 ⟨rfl, h6, b6, k6⟩
                  have T6 := Lib.hid (T5.out.say h6 b6 k6)
                  clear h6 b6 k6 TX
                  go_wp2_with fail
                  (try simp only [Exit.inBlock, Exit.then])
                  go_ret
                  exact ⟨T6.out.fr, EndsS.ok E5.out T6.out.rd⟩
                · rw [hs] at c5
                  have g1 : (S (ch :: r)).toList.isEmpty = false := by rw [emptyX]; rfl
                  have z0 : (0 : Int) < ((S (ch :: r)).size : Int) := by rw [S_size]; simp
                  have HA : Hid (∀ hk : 0 < (S (ch :: r)).size, ((S (ch :: r))[0]'hk) = ch) := fun hk => by rw [S_at]; rfl
                  obtain ⟨t, ht⟩ : ∃ x, x = S (ch :: r) := ⟨_, rfl⟩
                  rw [← ht] at c5 g1 z0 HA
                  have z1 : 0 < t.size := by omega
                  obtain ⟨x, hx⟩ : ∃ x, x = ch.toNat := ⟨_, rfl⟩
                  have hxe : ((t[0]'z1).toNat : Int) = (x : Int) := by rw [hx, ← HA.out z1]
                  clear ht
                  by_cases h60 : x = 60
                  · have E5 : Hid (R = .ok l1 s3) := E.out.trans (if_pos (.inr (by rw [hs]; show ch = 60; exact UInt8.toNat_inj.1 (by rw [← hx, h60]; rfl))))
                    subst h60
                    clear E hx HA
                    have TX := Lib.hid (textXU w.heap.size b l1 w5 T5.out.bl T5.out.size)
                    go_wp2_with fail
                    refine TX.out.mono ?_
                    rintro e w6 ⟨rfl, h6, b6, k6⟩
                    have T6 := Lib.hid (T5.out.say h6 b6 k6)
                    clear h6 b6 k6 TX
                    go_wp2_with fail
                    (try simp only [Exit.inBlock, Exit.then])
                    go_ret
                    exact ⟨T6.out.fr, EndsS.ok E5.out T6.out.rd⟩
                  · have x60 : ¬ ((x : Int) = 60) := by omega
                    have n60 : Hid (ch ≠ 60) := fun e => h60 (by rw [hx, e]; rfl)
                    have n38 : Hid (ch ≠ 38) := fun e => by
                      have := nf.out
                      rw [hs, e] at this
                      simp [Lib.hasPrefix] at this
                    have E5 := Lib.hid (E.out.trans (if_neg (by rw [hs]; rintro (e | e); (cases e); exact n60.out e)))
                    have k6 := Xml.plain_lt (o := [60, 38]) hs (by simp; exact ⟨n60.out, n38.out⟩)
                    have k7 := Xml.plain_len s3 [60, 38]
                    clear E hx HA h60
                    have PL := Lib.hid (plainX_any HI.out T5.out.rd q1 [60, 38] (.inl rfl))
                    rw [show S [60, 38] = ⟨#[60, 38]⟩ from rfl] at PL
                    go_wp2_with fail
                    refine PL.out.mono ?_
                    rintro e w6 ⟨f6, rfl, r6⟩
                    have T6 := Lib.hid (T5.out.read r6 f6)
                    clear f6 r6 PL
                    obtain ⟨a, ha⟩ : ∃ x, x = (Xml.plain s3 [60, 38]).1 := ⟨_, rfl⟩
                    obtain ⟨s6, hs6⟩ : ∃ x, x = (Xml.plain s3 [60, 38]).2 := ⟨_, rfl⟩
                    rw [← ha, ← hs6] at E5
                    rw [← hs6] at T6
                    rw [← ha, ← hs6] at k7
                    rw [← hs6] at k6
                    rw [← ha]
                    clear ha hs6
                    have CO := Lib.hid (containsX_any w6 T6.out.rd.envw a Xml.tCdataEnd (by omega) ⟨#[93, 93, 62]⟩ rfl)
                    go_wp2_with fail
                    refine CO.out.mono ?_
                    rintro e w7 ⟨rfl, b7⟩
                    have T7 := Lib.hid (T6.out.under b7)
                    clear b7 CO
                    cases hb : Xml.hasB a Xml.tCdataEnd with
                    | true =>
                      rw [if_pos hb] at E5
                      go_wp2_with fail
                      refine (demand_bad _ _).mono ?_
                      rintro e w8 ⟨rfl, rfl⟩
                      exact ⟨rfl, T7.out.fr, EndsS.bad E5.out _⟩
                    | false =>
                      rw [if_neg (by rw [hb]; simp)] at E5
                      clear hb
                      have ua := unify_le a
                      go_wp2_with fail
                      refine (demand_ok _ _).mono ?_
                      rintro e w8 ⟨rfl, rfl⟩
                      have UN := Lib.hid (unifyX_any w7 T7.out.rd.envw a (by omega))
                      go_wp2_with fail
                      refine UN.out.mono ?_
                      rintro e w8 ⟨rfl, b8⟩
                      have T8 := Lib.hid (T7.out.under b8)
                      clear b8 UN
                      have WS := Lib.hid (wstringU w.heap.size b l1 (Xml.unify a) w8 T8.out.bl (by omega) T8.out.size)
                      go_wp2_with fail
                      refine WS.out.mono ?_
                      rintro e w9 ⟨⟨v, rfl⟩, h9, b9, k9⟩
                      have T9 := Lib.hid (T8.out.say h9 b9 k9)
                      clear h9 b9 k9 WS
                      have M9 : Hid (TxI w0 C w p A c b R w9) := ⟨s6, f2, l1 ++ Xml.unify a, T9.out, by omega, by simp only [List.length_append]; omega, E5.out⟩
                      have MS : Hid (restN w9 p < restN wr p) := by show _ < _; rw [RN.out, restN_is T9.out.rd]; omega
                      go_wp2_with fail
                      go_roundw
                      case rel => exact M9
                      case measure => exact MS.out
end
end Go.Proofs.YteefjmdallpihaaGreatDoor

namespace Go.Proofs.YteefjmdallpihaaGreatDoor
namespace Xml
variable {s s' : St}
theorem inside_end {f : Nat} {l : B} (h : s.rest = []) : inside (f + 1) s l = .ok l s := by
  show (if s.rest = [] then _ else _) = _
  rw [if_pos h]
theorem inside_amp {f : Nat} {l : B} (h : s.rest ≠ []) (hk : (skip s [38]).1 = true) : inside (f + 1) s l = (reference (skip s [38]).2).then fun c s => inside f s (l ++ utf8 c) := by
  show (if s.rest = [] then _ else if _ then _ else _) = _
  rw [if_neg h, if_pos hk]
theorem inside_plain {f : Nat} {l : B} (h : s.rest ≠ []) (hk : (skip s [38]).1 = false) : inside (f + 1) s l = inside f (plain s [38]).2 (l ++ flatten (unify (plain s [38]).1)) := by
  show (if s.rest = [] then _ else if _ then _ else _) = _
  rw [if_neg h, if_neg (by rw [hk]; simp)]
/-- What the text between the quotes says; then the reader is behind. -/
def insideR (f : Nat) (i : B) (s : St) : Res B := match inside f ⟨i, []⟩ [] with
  | .bad e => .bad e
  | .ok l _ => .ok l s
theorem insideR_bad {f : Nat} {i : B} {s : St} {n : Nat} (h : inside f ⟨i, []⟩ [] = .bad n) : insideR f i s = .bad n := by unfold insideR; rw [h]
theorem insideR_ok {f : Nat} {i l : B} {s t : St} (h : inside f ⟨i, []⟩ [] = .ok l t) : insideR f i s = .ok l s := by unfold insideR; rw [h]
theorem quoted_eq (f : Nat) (s : St) (q : B) : quoted f s q = (upto s q).then fun i s => if hasB i [60] then .bad 30 else insideR f i s := rfl
end Xml
open Go.RowKit Reply Go.Shelf

theorem skipX_lit {w0 w : World} {C p : Nat} {s : Xml.St} {A : Option Addr} {c : Nat} (h : RdX w0 C w p s A c) (t : Reply.B) (u : ByteArray) (hu : u = S t) :
    Calls Tryz.prog 35 #[.pointer (some ⟨p, 0, none⟩), .string u] w fun e w' => e = .returned (.bool (Xml.skip s t).1) ∧ RdX w0 C w' p (Xml.skip s t).2 A c ∧ FrX C p w w' := by
  rw [hu]; exact skipX_any h t
theorem fcloneX_any (w : World) (s : ByteArray) (hs : s.size ≤ 4294967296) :
    Calls Tryz.prog 46 #[.string s] w fun e w' => e = .returned (.string s) ∧ Below w.heap.size w w' := by
  have CL := Lib.hid (fun u => Tryz.stringslite_Clone s u (by omega))
  go_enter Tryz.func46, Tryz.ntmps46
  go_wp2_with fail
  refine (CL.out _).mono ?_
  rintro e w1 ⟨rfl, hb⟩
  have B1 := Lib.hid hb
  clear hb CL
  go_wp2_with fail
  go_ret
  exact ⟨rfl, B1.out⟩
/-- Between two rounds of value: its own reader in block p2, its builder in b; w2 is the world ahead of both. -/
def VaI (w2 : World) (p2 b : Nat) (R : Xml.Res Reply.B) (wr : World) : Prop := ∃ s1 f1 l1, TxR w2 w2.heap.size w2 p2 none 0 b s1 l1 wr ∧ s1.rest.length < f1 ∧ l1.length + 4 * s1.rest.length ≤ 262144 ∧ s1.spaces = [] ∧ R = Xml.inside f1 s1 l1
theorem VaI.outer {w0 w2 wr : World} {C p p2 b : Nat} {so : Xml.St} {A : Option Addr} {c : Nat} {s1 : Xml.St} {l1 : Reply.B} (h : TxR w2 w2.heap.size w2 p2 none 0 b s1 l1 wr) (r : RdX w0 C w2 p so A c) : RdX w0 C wr p so A c ∧ FrX C p w2 wr := by
  have k := h.fr.below (Nat.le_refl _) (Nat.le_refl _) h.rd.l0
  exact ⟨r.under k, FrX.under k⟩
end Go.Proofs.YteefjmdallpihaaGreatDoor

namespace Go.Proofs.YteefjmdallpihaaGreatDoor
open Go.RowKit Reply Go.Shelf

section
variable {w0 w : World} {C p : Nat} {s : Xml.St} {A : Option Addr} {c : Nat}
set_option maxRecDepth 100000 in
set_option maxHeartbeats 16000000 in
theorem valueX_any (NU : NumX) (IX : IdxX) (RU : RuneX) (h : RdX w0 C w p s A c) (hl : s.rest.length ≤ 65536) (f : Nat) (hf : s.rest.length ≤ f) :
    Calls Tryz.prog 60 #[.pointer (some ⟨p, 0, none⟩)] w fun e w' => FrX C p w w' ∧ EndsS w0 C p A c (Xml.value f s) e w' := by
  have HN := Lib.hid NU
  have HI := Lib.hid IX
  have HR := Lib.hid RU
  obtain ⟨R, hR⟩ : ∃ x, x = Xml.value f s := ⟨_, rfl⟩
  rw [← hR]
  have SK := Lib.hid (skipX_lit h [34] ⟨#[34]⟩ rfl)
  clear h NU IX RU
  go_enter Tryz.func60, Tryz.ntmps60
  go_wp2_with fail
  refine SK.out.mono ?_
  rintro e w1 ⟨rfl, r1, f1⟩
  have R1 := Lib.hid r1
  have F1 := Lib.hid f1
  clear r1 f1 SK
  cases hk : (Xml.skip s [34]).1 with
  | true =>
    have HQ : Hid (R = Xml.quoted f (Xml.skip s [34]).2 [34]) := by show R = _; rw [hR]; unfold Xml.value; rw [if_pos hk]
    have k1 := Xml.skip_lt s [34] hk
    simp only [List.length_singleton] at k1
    clear hR hk
    have UP := Lib.hid (uptoX_any R1.out (by omega) [34])
    rw [show S [34] = ⟨#[34]⟩ from rfl] at UP
    go_wp2_with fail
    refine UP.out.mono ?_
    rintro e w2 ⟨f2, X2⟩
    have F2 := Lib.hid (F1.out.trans f2)
    clear f2 UP
    cases hu : Xml.upto ((Xml.skip s [34]).2) [34] with
    | bad n =>
      have E : Hid (R = .bad n) := by show R = _; rw [HQ.out, Xml.quoted_eq, hu]; rfl
      rw [hu] at X2
      obtain rfl := X2
      exact ⟨rfl, F2.out, EndsS.bad E.out _⟩
    | ok i so =>
      have E : Hid (R = if Xml.hasB i [60] then .bad 30 else Xml.insideR f i so) := by show R = _; rw [HQ.out, Xml.quoted_eq, hu]; rfl
      rw [hu] at X2
      obtain ⟨rfl, r2⟩ := X2
      have R2 := Lib.hid r2
      have ku := Xml.upto_ok hu
      clear r2 hu HQ
      have il : i.length ≤ 65536 ∧ i.length < f := by simp only [List.length_singleton] at ku; omega
      clear ku hl hf
      have V0 : ∀ wr, wr = w2.alloc (.cells #[.string (S i), .slice none 0 0] 56) → RdX w2 w2.heap.size wr w2.heap.size ⟨i, []⟩ none 0 := fun wr e => by
        subst e
        exact ⟨R2.out.envw, Nat.le_refl _, Nat.le_refl _, (Below.refl _ _).alloc (Nat.le_refl _) _, by simp, heap_alloc_new w2 _, OwnHS.nil _ _⟩
      have V0 := Lib.hid V0
      have CO := Lib.hid (fun u K => containsX_any u K i [60] (by omega) ⟨#[60]⟩ rfl)
      go_wp2_with fail
      refine (CO.out _ (V0.out _ rfl).envw).mono ?_
      rintro e w4 ⟨rfl, b4⟩
      have lo2 := Lib.hid R2.out.bel.size
      have lw := Lib.hid F2.out.size
      have R4 := Lib.hid ((V0.out _ rfl).under b4)
      have B4 : Hid (Below w2.heap.size w2 w4) := ((Below.refl _ _).alloc (Nat.le_refl _) _).trans (b4.mono (by simp))
      clear b4 V0 CO
      obtain ⟨p2, hp2⟩ : ∃ x, x = w2.heap.size := ⟨_, rfl⟩
      have P2 := Lib.hid hp2
      rw [← hp2]
      rw [← hp2] at R4
      cases hb : Xml.hasB i [60] with
      | true =>
        rw [if_pos hb] at E
        clear hp2
        go_wp2_with fail
        refine (demand_bad _ _).mono ?_
        rintro e w5 ⟨rfl, rfl⟩
        exact ⟨rfl, F2.out.after (B4.out.mono lw.out), EndsS.bad E.out _⟩
      | false =>
        rw [if_neg (by rw [hb]; simp)] at E
        obtain ⟨Q, hQ⟩ : ∃ x, x = Xml.inside f ⟨i, []⟩ [] := ⟨_, rfl⟩
        have R4' : RdX w2 w2.heap.size w4 p2 ⟨i, []⟩ none 0 := by have := R4.out; rw [hp2] at this ⊢; exact this
        have R4 := Lib.hid R4'
        have K5 : Below w4.heap.size w4 (w4.alloc (.cells #[.pointer none, .slice none 0 0] 61)) := (Below.refl _ _).alloc (Nat.le_refl _) _
        have M0 : Hid (VaI w2 p2 w4.heap.size Q (w4.alloc (.cells #[.pointer none, .slice none 0 0] 61))) :=
          ⟨⟨i, []⟩, f, [], ⟨R4.out.under K5, BldU.new w4 _ _ rfl B4.out.size, FrX.under (B4.out.trans (K5.mono B4.out.size)), Nat.le_refl _⟩, il.2, by simp; omega, rfl, hQ⟩
        have E1 : Hid (∀ l t, Q = .ok l t → R = .ok l so) := fun l t h => by show R = _; rw [E.out]; exact Xml.insideR_ok (hQ.symm.trans h)
        have E2 : Hid (∀ n, Q = .bad n → R = .bad n) := fun n h => by show R = _; rw [E.out]; exact Xml.insideR_bad (hQ.symm.trans h)
        clear E hQ hb il K5 R4' hp2
        go_wp2_with fail
        refine (demand_ok _ _).mono ?_
        rintro e w5 ⟨rfl, rfl⟩
        obtain ⟨b, hb⟩ : ∃ x, x = w4.heap.size := ⟨_, rfl⟩
        rw [← hb] at M0
        have HB := Lib.hid hb
        clear hb
        go_wp2_with fail
        rw [← HB.out]
        go_loopw [] (fun wr => Hid (VaI w2 p2 b Q wr)) (fun wr => restN wr p2)
        case atStart => exact M0
        case round =>
          clear M0
          obtain ⟨s1, f1, l1, T1, m1, m2, ms, hQ⟩ := hrel
          obtain ⟨f2, rfl⟩ : ∃ k, f1 = k + 1 := ⟨f1 - 1, by omega⟩
          have T1 := Lib.hid T1
          have RN := Lib.hid (restN_is T1.out.rd)
          have G := Lib.hid hQ
          have q1 : s1.rest.length ≤ 65536 := by omega
          have c5 : wr.cell? ⟨p2, 0, none⟩ = some (.string (S s1.rest)) := T1.out.rd.blk.cell 0
          have g1 : ((S s1.rest).toList == []) = decide (s1.rest = []) := by rw [S_toList]; exact eqdX _ _
          have g2 := emptyX s1.rest
          have S1 := Lib.hid ms
          clear hQ ms
          by_cases h0 : s1.rest = []
          · rw [decide_eq_true h0] at g1 g2
            have G1 : Hid (Q = .ok l1 s1) := G.out.trans (Xml.inside_end h0)
            obtain ⟨t, ht⟩ : ∃ x, x = S s1.rest := ⟨_, rfl⟩
            rw [← ht] at c5 g1 g2
            clear ht h0 G
            have TX := Lib.hid (textXU w2.heap.size b l1 wr T1.out.bl T1.out.size)
            go_wp2_with fail
            refine TX.out.mono ?_
            rintro e w6 ⟨rfl, h6, b6, k6⟩
            have T6 := Lib.hid (T1.out.say h6 b6 k6)
            clear h6 b6 k6 TX
            have OU := Lib.hid (VaI.outer T6.out R2.out)
            go_wp2_with fail
            (try simp only [Exit.inBlock, Exit.then])
            go_ret
            exact ⟨F2.out.trans OU.out.2, EndsS.ok (E1.out _ _ G1.out) OU.out.1⟩
          · rw [decide_eq_false h0] at g1 g2
            have H0 := Lib.hid h0
            obtain ⟨t, ht⟩ : ∃ x, x = S s1.rest := ⟨_, rfl⟩
            rw [← ht] at c5 g1 g2
            clear ht h0
            have SK := Lib.hid (skipX_lit T1.out.rd [38] ⟨#[38]⟩ rfl)
            go_wp2_with fail
            refine SK.out.mono ?_
            rintro e w6 ⟨rfl, r6, f6⟩
            have T6 := Lib.hid (T1.out.read r6 f6)
            clear r6 f6 SK
            cases hk : (Xml.skip s1 [38]).1 with
            | true =>
              have k4 := Xml.skip_lt s1 [38] hk
              have G1 := Lib.hid (G.out.trans (Xml.inside_amp H0.out hk))
              clear hk G
              simp only [List.length_singleton] at k4
              have RF := Lib.hid (refX_any HN.out T6.out.rd (by omega))
              go_wp2_with fail
              refine RF.out.mono ?_
              rintro e w7 ⟨f7, X7⟩
              have G7 := Lib.hid f7
              clear f7 RF
              cases hu : Xml.reference (Xml.skip s1 [38]).2 with
              | bad n =>
                rw [hu] at X7
                have G2 : Hid (Q = .bad n) := by show Q = _; rw [G1.out, hu]; rfl
                obtain rfl := X7
                have OU := Lib.hid (VaI.outer T6.out R2.out)
                exact ⟨rfl, F2.out.trans (OU.out.2.after (G7.out.below OU.out.2.size (Nat.le_refl _) T6.out.rd.l0)), EndsS.bad (E2.out _ G2.out) _⟩
              | ok a s7 =>
                rw [hu] at X7
                have G2 : Hid (Q = Xml.inside f2 s7 (l1 ++ Xml.utf8 a)) := by show Q = _; rw [G1.out, hu]; rfl
                obtain ⟨rfl, r7⟩ := X7
                have k5 := Xml.reference_ok hu
                have kl := Xml.reference_letter hu
                have T7 := Lib.hid (T6.out.read r7 G7.out)
                have ua := Xml.utf8_le a
                have S7 : Hid (s7.spaces = []) := k5.2.trans S1.out
                clear r7 G7 hu G1
                have WS := Lib.hid (HR.out w2.heap.size b l1 a w7 T7.out.bl (by omega) T7.out.size kl)
                go_wp2_with fail
                refine WS.out.mono ?_
                rintro e w8 ⟨⟨v, rfl⟩, h8, b8, k8⟩
                have T8 := Lib.hid (T7.out.say h8 b8 k8)
                clear h8 b8 k8 WS
                have M9 : Hid (VaI w2 p2 b Q w8) := ⟨s7, f2, l1 ++ Xml.utf8 a, T8.out, by omega, by simp only [List.length_append]; omega, S7.out, G2.out⟩
                have MS : Hid (restN w8 p2 < restN wr p2) := by show _ < _; rw [RN.out, restN_is T8.out.rd]; omega
                go_wp2_with fail
                go_roundw
                case rel => exact M9
                case measure => exact MS.out
            | false =>
              have e5 := Xml.skip_no s1 [38] hk
              have G1 := Lib.hid (G.out.trans (Xml.inside_plain H0.out hk))
              have nf : Hid (Lib.hasPrefix s1.rest [38] = false) := hk
              rw [e5] at T6
              clear hk e5 G
              have k6 : (Xml.plain s1 [38]).2.rest.length < s1.rest.length ∧ (Xml.plain s1 [38]).2.spaces = s1.spaces := by
                rcases hs : s1.rest with _ | ⟨ch, r⟩
                · exact absurd hs H0.out
                · rw [← hs]
                  exact Xml.plain_lt hs (by
                    intro hm
                    have : ch = 38 := by simpa using hm
                    have g := nf.out
                    rw [hs, this] at g
                    simp [Lib.hasPrefix] at g)
              have k7 := Xml.plain_len s1 [38]
              clear nf
              have PL := Lib.hid (plainX_any HI.out T6.out.rd q1 [38] (.inr rfl))
              rw [show S [38] = ⟨#[38]⟩ from rfl] at PL
              go_wp2_with fail
              refine PL.out.mono ?_
              rintro e w7 ⟨f7, rfl, r7⟩
              have T7 := Lib.hid (T6.out.read r7 f7)
              clear f7 r7 PL
              obtain ⟨a, ha⟩ : ∃ x, x = (Xml.plain s1 [38]).1 := ⟨_, rfl⟩
              obtain ⟨s7, hs7⟩ : ∃ x, x = (Xml.plain s1 [38]).2 := ⟨_, rfl⟩
              rw [← ha, ← hs7] at G1
              rw [← hs7] at T7
              rw [← ha, ← hs7] at k7
              rw [← hs7] at k6
              rw [← ha]
              clear ha hs7
              have S7 : Hid (s7.spaces = []) := k6.2.trans S1.out
              have ua := unify_le a
              have fa := flatten_le (Xml.unify a)
              have UN := Lib.hid (unifyX_any w7 T7.out.rd.envw a (by omega))
              go_wp2_with fail
              refine UN.out.mono ?_
              rintro e w8 ⟨rfl, b8⟩
              have T8 := Lib.hid (T7.out.under b8)
              clear b8 UN
              have FL := Lib.hid (flattenX_any w8 T8.out.rd.envw (Xml.unify a) (by omega))
              go_wp2_with fail
              refine FL.out.mono ?_
              rintro e w9 ⟨rfl, b9⟩
              have T9 := Lib.hid (T8.out.under b9)
              clear b9 FL
              have WS := Lib.hid (wstringU w2.heap.size b l1 (Xml.flatten (Xml.unify a)) w9 T9.out.bl (by omega) T9.out.size)
              go_wp2_with fail
              refine WS.out.mono ?_
              rintro e w10 ⟨⟨v, rfl⟩, h10, b10, k10⟩
              have T10 := Lib.hid (T9.out.say h10 b10 k10)
              clear h10 b10 k10 WS
              have M9 : Hid (VaI w2 p2 b Q w10) := ⟨s7, f2, l1 ++ Xml.flatten (Xml.unify a), T10.out, by omega, by simp only [List.length_append]; omega, S7.out, G1.out⟩
              have MS : Hid (restN w10 p2 < restN wr p2) := by show _ < _; rw [RN.out, restN_is T10.out.rd]; omega
              go_wp2_with fail
              go_roundw
              case rel => exact M9
              case measure => exact MS.out
  | false =>
    have NE := Lib.hid (needX_any R1.out [39])
    rw [show S [39] = ⟨#[39]⟩ from rfl] at NE
    have HV : Hid (R = (Xml.need s [39]).then fun _ s => Xml.quoted f s [39]) := by show R = _; rw [hR]; unfold Xml.value; rw [if_neg (by rw [hk]; simp)]
    rw [Xml.skip_no s [34] hk] at NE
    clear hR hk
    go_wp2_with fail
    refine NE.out.mono ?_
    rintro e w1 ⟨f2, X2⟩
    have F1 := Lib.hid (F1.out.trans f2)
    clear f2 NE R1
    cases hu : Xml.need s [39] with
    | bad n =>
      have E : Hid (R = .bad n) := by show R = _; rw [HV.out, hu]; rfl
      rw [hu] at X2
      obtain rfl := X2
      exact ⟨rfl, F1.out, EndsS.bad E.out _⟩
    | ok _ s2 =>
      have HQ : Hid (R = Xml.quoted f s2 [39]) := by show R = _; rw [HV.out, hu]; rfl
      rw [hu] at X2
      obtain ⟨rfl, r1⟩ := X2
      have R1 := Lib.hid r1
      have k1 := Xml.need_ok hu
      simp only [List.length_singleton] at k1
      clear r1 hu HV
      have UP := Lib.hid (uptoX_any R1.out (by omega) [39])
      rw [show S [39] = ⟨#[39]⟩ from rfl] at UP
      go_wp2_with fail
      refine UP.out.mono ?_
      rintro e w2 ⟨f2, X2⟩
      have F2 := Lib.hid (F1.out.trans f2)
      clear f2 UP
      cases hu : Xml.upto (s2) [39] with
      | bad n =>
        have E : Hid (R = .bad n) := by show R = _; rw [HQ.out, Xml.quoted_eq, hu]; rfl
        rw [hu] at X2
        obtain rfl := X2
        exact ⟨rfl, F2.out, EndsS.bad E.out _⟩
      | ok i so =>
        have E : Hid (R = if Xml.hasB i [60] then .bad 30 else Xml.insideR f i so) := by show R = _; rw [HQ.out, Xml.quoted_eq, hu]; rfl
        rw [hu] at X2
        obtain ⟨rfl, r2⟩ := X2
        have R2 := Lib.hid r2
        have ku := Xml.upto_ok hu
        clear r2 hu HQ
        have il : i.length ≤ 65536 ∧ i.length < f := by simp only [List.length_singleton] at ku; omega
        clear ku hl hf
        have V0 : ∀ wr, wr = w2.alloc (.cells #[.string (S i), .slice none 0 0] 56) → RdX w2 w2.heap.size wr w2.heap.size ⟨i, []⟩ none 0 := fun wr e => by
          subst e
          exact ⟨R2.out.envw, Nat.le_refl _, Nat.le_refl _, (Below.refl _ _).alloc (Nat.le_refl _) _, by simp, heap_alloc_new w2 _, OwnHS.nil _ _⟩
        have V0 := Lib.hid V0
        have CO := Lib.hid (fun u K => containsX_any u K i [60] (by omega) ⟨#[60]⟩ rfl)
        go_wp2_with fail
        refine (CO.out _ (V0.out _ rfl).envw).mono ?_
        rintro e w4 ⟨rfl, b4⟩
        have lo2 := Lib.hid R2.out.bel.size
        have lw := Lib.hid F2.out.size
        have R4 := Lib.hid ((V0.out _ rfl).under b4)
        have B4 : Hid (Below w2.heap.size w2 w4) := ((Below.refl _ _).alloc (Nat.le_refl _) _).trans (b4.mono (by simp))
        clear b4 V0 CO
        obtain ⟨p2, hp2⟩ : ∃ x, x = w2.heap.size := ⟨_, rfl⟩
        have P2 := Lib.hid hp2
        rw [← hp2]
        rw [← hp2] at R4
        cases hb : Xml.hasB i [60] with
        | true =>
          rw [if_pos hb] at E
          clear hp2
          go_wp2_with fail
          refine (demand_bad _ _).mono ?_
          rintro e w5 ⟨rfl, rfl⟩
          exact ⟨rfl, F2.out.after (B4.out.mono lw.out), EndsS.bad E.out _⟩
        | false =>
          rw [if_neg (by rw [hb]; simp)] at E
          obtain ⟨Q, hQ⟩ : ∃ x, x = Xml.inside f ⟨i, []⟩ [] := ⟨_, rfl⟩
          have R4' : RdX w2 w2.heap.size w4 p2 ⟨i, []⟩ none 0 := by have := R4.out; rw [hp2] at this ⊢; exact this
          have R4 := Lib.hid R4'
          have K5 : Below w4.heap.size w4 (w4.alloc (.cells #[.pointer none, .slice none 0 0] 61)) := (Below.refl _ _).alloc (Nat.le_refl _) _
          have M0 : Hid (VaI w2 p2 w4.heap.size Q (w4.alloc (.cells #[.pointer none, .slice none 0 0] 61))) :=
            ⟨⟨i, []⟩, f, [], ⟨R4.out.under K5, BldU.new w4 _ _ rfl B4.out.size, FrX.under (B4.out.trans (K5.mono B4.out.size)), Nat.le_refl _⟩, il.2, by simp; omega, rfl, hQ⟩
          have E1 : Hid (∀ l t, Q = .ok l t → R = .ok l so) := fun l t h => by show R = _; rw [E.out]; exact Xml.insideR_ok (hQ.symm.trans h)
          have E2 : Hid (∀ n, Q = .bad n → R = .bad n) := fun n h => by show R = _; rw [E.out]; exact Xml.insideR_bad (hQ.symm.trans h)
          clear E hQ hb il K5 R4' hp2
          go_wp2_with fail
          refine (demand_ok _ _).mono ?_
          rintro e w5 ⟨rfl, rfl⟩
          obtain ⟨b, hb⟩ : ∃ x, x = w4.heap.size := ⟨_, rfl⟩
          rw [← hb] at M0
          have HB := Lib.hid hb
          clear hb
          go_wp2_with fail
          rw [← HB.out]
          go_loopw [] (fun wr => Hid (VaI w2 p2 b Q wr)) (fun wr => restN wr p2)
          case atStart => exact M0
          case round =>
            clear M0
            obtain ⟨s1, f1, l1, T1, m1, m2, ms, hQ⟩ := hrel
            obtain ⟨f2, rfl⟩ : ∃ k, f1 = k + 1 := ⟨f1 - 1, by omega⟩
            have T1 := Lib.hid T1
            have RN := Lib.hid (restN_is T1.out.rd)
            have G := Lib.hid hQ
            have q1 : s1.rest.length ≤ 65536 := by omega
            have c5 : wr.cell? ⟨p2, 0, none⟩ = some (.string (S s1.rest)) := T1.out.rd.blk.cell 0
            have g1 : ((S s1.rest).toList == []) = decide (s1.rest = []) := by rw [S_toList]; exact eqdX _ _
            have g2 := emptyX s1.rest
            have S1 := Lib.hid ms
            clear hQ ms
            by_cases h0 : s1.rest = []
            · rw [decide_eq_true h0] at g1 g2
              have G1 : Hid (Q = .ok l1 s1) := G.out.trans (Xml.inside_end h0)
              obtain ⟨t, ht⟩ : ∃ x, x = S s1.rest := ⟨_, rfl⟩
              rw [← ht] at c5 g1 g2
              clear ht h0 G
              have TX := Lib.hid (textXU w2.heap.size b l1 wr T1.out.bl T1.out.size)
              go_wp2_with fail
              refine TX.out.mono ?_
              rintro e w6 ⟨rfl, h6, b6, k6⟩
              have T6 := Lib.hid (T1.out.say h6 b6 k6)
              clear h6 b6 k6 TX
              have OU := Lib.hid (VaI.outer T6.out R2.out)
              go_wp2_with fail
              (try simp only [Exit.inBlock, Exit.then])
              go_ret
              exact ⟨F2.out.trans OU.out.2, EndsS.ok (E1.out _ _ G1.out) OU.out.1⟩
            · rw [decide_eq_false h0] at g1 g2
              have H0 := Lib.hid h0
              obtain ⟨t, ht⟩ : ∃ x, x = S s1.rest := ⟨_, rfl⟩
              rw [← ht] at c5 g1 g2
              clear ht h0
              have SK := Lib.hid (skipX_lit T1.out.rd [38] ⟨#[38]⟩ rfl)
              go_wp2_with fail
              refine SK.out.mono ?_
              rintro e w6 ⟨rfl, r6, f6⟩
              have T6 := Lib.hid (T1.out.read r6 f6)
              clear r6 f6 SK
              cases hk : (Xml.skip s1 [38]).1 with
              | true =>
                have k4 := Xml.skip_lt s1 [38] hk
                have G1 := Lib.hid (G.out.trans (Xml.inside_amp H0.out hk))
                clear hk G
                simp only [List.length_singleton] at k4
                have RF := Lib.hid (refX_any HN.out T6.out.rd (by omega))
                go_wp2_with fail
                refine RF.out.mono ?_
                rintro e w7 ⟨f7, X7⟩
                have G7 := Lib.hid f7
                clear f7 RF
                cases hu : Xml.reference (Xml.skip s1 [38]).2 with
                | bad n =>
                  rw [hu] at X7
                  have G2 : Hid (Q = .bad n) := by show Q = _; rw [G1.out, hu]; rfl
                  obtain rfl := X7
                  have OU := Lib.hid (VaI.outer T6.out R2.out)
                  exact ⟨rfl, F2.out.trans (OU.out.2.after (G7.out.below OU.out.2.size (Nat.le_refl _) T6.out.rd.l0)), EndsS.bad (E2.out _ G2.out) _⟩
                | ok a s7 =>
                  rw [hu] at X7
                  have G2 : Hid (Q = Xml.inside f2 s7 (l1 ++ Xml.utf8 a)) := by show Q = _; rw [G1.out, hu]; rfl
                  obtain ⟨rfl, r7⟩ := X7
                  have k5 := Xml.reference_ok hu
                  have kl := Xml.reference_letter hu
                  have T7 := Lib.hid (T6.out.read r7 G7.out)
                  have ua := Xml.utf8_le a
                  have S7 : Hid (s7.spaces = []) := k5.2.trans S1.out
                  clear r7 G7 hu G1
                  have WS := Lib.hid (HR.out w2.heap.size b l1 a w7 T7.out.bl (by omega) T7.out.size kl)
                  go_wp2_with fail
                  refine WS.out.mono ?_
                  rintro e w8 ⟨⟨v, rfl⟩, h8, b8, k8⟩
                  have T8 := Lib.hid (T7.out.say h8 b8 k8)
                  clear h8 b8 k8 WS
                  have M9 : Hid (VaI w2 p2 b Q w8) := ⟨s7, f2, l1 ++ Xml.utf8 a, T8.out, by omega, by simp only [List.length_append]; omega, S7.out, G2.out⟩
                  have MS : Hid (restN w8 p2 < restN wr p2) := by show _ < _; rw [RN.out, restN_is T8.out.rd]; omega
                  go_wp2_with fail
                  go_roundw
                  case rel => exact M9
                  case measure => exact MS.out
              | false =>
                have e5 := Xml.skip_no s1 [38] hk
                have G1 := Lib.hid (G.out.trans (Xml.inside_plain H0.out hk))
                have nf : Hid (Lib.hasPrefix s1.rest [38] = false) := hk
                rw [e5] at T6
                clear hk e5 G
                have k6 : (Xml.plain s1 [38]).2.rest.length < s1.rest.length ∧ (Xml.plain s1 [38]).2.spaces = s1.spaces := by
                  rcases hs : s1.rest with _ | ⟨ch, r⟩
                  · exact absurd hs H0.out
                  · rw [← hs]
                    exact Xml.plain_lt hs (by
                      intro hm
                      have : ch = 38 := by simpa using hm
                      have g := nf.out
                      rw [hs, this] at g
                      simp [Lib.hasPrefix] at g)
                have k7 := Xml.plain_len s1 [38]
                clear nf
                have PL := Lib.hid (plainX_any HI.out T6.out.rd q1 [38] (.inr rfl))
                rw [show S [38] = ⟨#[38]⟩ from rfl] at PL
                go_wp2_with fail
                refine PL.out.mono ?_
                rintro e w7 ⟨f7, rfl, r7⟩
                have T7 := Lib.hid (T6.out.read r7 f7)
                clear f7 r7 PL
                obtain ⟨a, ha⟩ : ∃ x, x = (Xml.plain s1 [38]).1 := ⟨_, rfl⟩
                obtain ⟨s7, hs7⟩ : ∃ x, x = (Xml.plain s1 [38]).2 := ⟨_, rfl⟩
                rw [← ha, ← hs7] at G1
                rw [← hs7] at T7
                rw [← ha, ← hs7] at k7
                rw [← hs7] at k6
                rw [← ha]
                clear ha hs7
                have S7 : Hid (s7.spaces = []) := k6.2.trans S1.out
                have ua := unify_le a
                have fa := flatten_le (Xml.unify a)
                have UN := Lib.hid (unifyX_any w7 T7.out.rd.envw a (by omega))
                go_wp2_with fail
                refine UN.out.mono ?_
                rintro e w8 ⟨rfl, b8⟩
                have T8 := Lib.hid (T7.out.under b8)
                clear b8 UN
                have FL := Lib.hid (flattenX_any w8 T8.out.rd.envw (Xml.unify a) (by omega))
                go_wp2_with fail
                refine FL.out.mono ?_
                rintro e w9 ⟨rfl, b9⟩
                have T9 := Lib.hid (T8.out.under b9)
                clear b9 FL
                have WS := Lib.hid (wstringU w2.heap.size b l1 (Xml.flatten (Xml.unify a)) w9 T9.out.bl (by omega) T9.out.size)
                go_wp2_with fail
                refine WS.out.mono ?_
                rintro e w10 ⟨⟨v, rfl⟩, h10, b10, k10⟩
                have T10 := Lib.hid (T9.out.say h10 b10 k10)
                clear h10 b10 k10 WS
                have M9 : Hid (VaI w2 p2 b Q w10) := ⟨s7, f2, l1 ++ Xml.flatten (Xml.unify a), T10.out, by omega, by simp only [List.length_append]; omega, S7.out, G1.out⟩
                have MS : Hid (restN w10 p2 < restN wr p2) := by show _ < _; rw [RN.out, restN_is T10.out.rd]; omega
                go_wp2_with fail
                go_roundw
                case rel => exact M9
                case measure => exact MS.out
end
end Go.Proofs.YteefjmdallpihaaGreatDoor

namespace Go.Proofs.YteefjmdallpihaaGreatDoor
namespace Xml
variable {s s' : St}
theorem attr_go {f : Nat} {l : List (B × B)} (h1 : (white s).1 = true) (h2 : 0 < nameLen (white s).2.rest) : attributes (f + 1) s l = (fullName (white s).2).then fun n s => (need (white s).2 [61]).then fun _ s => (value f (white s).2).then fun v s => attributes f s (l ++ [(n, v)]) := by
  show (if _ then _ else _) = _
  rw [if_pos (by rw [h1, decide_eq_true h2]; rfl)]
theorem attr_stop {f : Nat} {l : List (B × B)} (h : ¬ ((white s).1 = true ∧ 0 < nameLen (white s).2.rest)) : attributes (f + 1) s l = if distinct l then .ok l (white s).2 else .bad 30 := by
  show (if _ then _ else _) = _
  rw [if_neg (by simpa using h)]
theorem insideR_sp {f : Nat} {i : B} {s s' : St} {l : B} (h : insideR f i s = .ok l s') : s' = s := by
  unfold insideR at h
  split at h
  · cases h
  · injection h with _ h2; exact h2.symm
theorem quoted_ok {f : Nat} {q l : B} (h : quoted f s q = .ok l s') : s'.rest.length ≤ s.rest.length ∧ s'.spaces = s.spaces := by
  rw [quoted_eq] at h
  cases hu : upto s q with
  | bad n => rw [hu] at h; cases h
  | ok a s1 =>
    rw [hu] at h
    have u := upto_ok hu
    simp only [Res.then] at h
    split at h
    · cases h
    · have e := insideR_sp h
      subst e
      exact ⟨by omega, u.2⟩
theorem value_ok {f : Nat} {l : B} (h : value f s = .ok l s') : s'.rest.length ≤ s.rest.length ∧ s'.spaces = s.spaces := by
  unfold value at h
  split at h
  · have k := skip_le s [34]
    have q := quoted_ok h
    exact ⟨by omega, q.2.trans k.2⟩
  · cases hu : need s [39] with
    | bad n => rw [hu] at h; cases h
    | ok a s1 =>
      rw [hu] at h
      have u := need_ok hu
      have q := quoted_ok h
      exact ⟨by omega, q.2.trans u.2⟩
theorem attributes_ok : ∀ (f : Nat) {s s' : St} {l l' : List (B × B)}, attributes f s l = .ok l' s' → s'.rest.length + l'.length ≤ s.rest.length + l.length ∧ s'.spaces = s.spaces ∧ ((∀ x ∈ l, x.1.length ≤ 65536) → s.rest.length ≤ 65536 → ∀ x ∈ l', x.1.length ≤ 65536)
  | 0, s, s', l, l', h => by cases h
  | f + 1, s, s', l, l', h => by
    have w1 := white_le s
    by_cases hc : (white s).1 = true ∧ 0 < nameLen (white s).2.rest
    · rw [attr_go hc.1 hc.2] at h
      cases h1 : fullName (white s).2 with
      | bad n => rw [h1] at h; cases h
      | ok n s1 =>
        rw [h1] at h
        have k1 := fullName_ok h1
        simp only [Res.then] at h
        have w2 := white_le s1
        cases h2 : need (white s1).2 [61] with
        | bad n => rw [h2] at h; cases h
        | ok u s2 =>
          rw [h2] at h
          have k2 := need_ok h2
          simp only at h
          have w3 := white_le s2
          cases h3 : value f (white s2).2 with
          | bad n => rw [h3] at h; cases h
          | ok v s3 =>
            rw [h3] at h
            have k3 := value_ok h3
            simp only at h
            have ih := attributes_ok f h
            rw [List.length_append] at ih
            simp only [List.length_singleton] at ih k2
            refine ⟨by omega, ih.2.1.trans (k3.2.trans (w3.2.trans (k2.2.trans (w2.2.trans (k1.2.2.trans w1.2))))), fun hl hs => ih.2.2 (fun x hx => ?_) (by omega)⟩
            rcases List.mem_append.1 hx with hx | hx
            · exact hl x hx
            · have : x = (n, v) := by simpa using hx
              subst this
              show n.length ≤ _
              omega
    · rw [attr_stop hc] at h
      split at h
      · injection h with e1 e2
        subst e1 e2
        exact ⟨by omega, w1.2, fun hl _ => hl⟩
      · cases h
end Xml
open Go.RowKit Reply Go.Shelf

section
variable {w0 w : World} {C p : Nat} {s : Xml.St} {A : Option Addr} {c : Nat}
/-- Between two rounds of attributes. -/
structure AtR (w0 : World) (C : Nat) (w : World) (p : Nat) (A : Option Addr) (c : Nat) (v : Value) (s1 : Xml.St) (l1 : List (Reply.B × Reply.B)) (wr : World) : Prop where
  rd : RdX w0 C wr p s1 A c
  own : OwnHA wr w.heap.size v l1
  fr : FrX C p w wr
  lo : w0.heap.size ≤ w.heap.size
theorem AtR.read {v : Value} {s1 s2 : Xml.St} {l1 : List (Reply.B × Reply.B)} {wr w' : World} (h : AtR w0 C w p A c v s1 l1 wr) (r : RdX w0 C w' p s2 A c) (f : FrX C p wr w') : AtR w0 C w p A c v s2 l1 w' :=
  ⟨r, f.row h.own (Held.ne_row h.rd.blk h.own (by decide)) (by decide), h.fr.trans f, h.lo⟩
theorem AtR.under {v : Value} {s1 : Xml.St} {l1 : List (Reply.B × Reply.B)} {wr w' : World} (h : AtR w0 C w p A c v s1 l1 wr) (k : Below wr.heap.size wr w') : AtR w0 C w p A c v s1 l1 w' := h.read (h.rd.under k) (FrX.under k)
def AtI (w0 : World) (C : Nat) (w : World) (p : Nat) (A : Option Addr) (c : Nat) (R : Xml.Res (List (Reply.B × Reply.B))) (v : Value) (wr : World) : Prop := ∃ s1 f1 l1, AtR w0 C w p A c v s1 l1 wr ∧ s1.rest.length < f1 ∧ l1.length + s1.rest.length ≤ 65536 ∧ (∀ x ∈ l1, x.1.length ≤ 65536) ∧ R = Xml.attributes f1 s1 l1
set_option maxRecDepth 100000 in
set_option maxHeartbeats 16000000 in
theorem attrsX_any (NU : NumX) (IX : IdxX) (RU : RuneX) (h : RdX w0 C w p s A c) (hl : s.rest.length ≤ 65536) (f : Nat) (hf : s.rest.length < f) :
    Calls Tryz.prog 44 #[.pointer (some ⟨p, 0, none⟩)] w fun e w' => FrX C p w w' ∧ EndsA w0 C p w.heap.size (Xml.attributes f s []) e w' := by
  have HN := Lib.hid NU
  have HI := Lib.hid IX
  have HR := Lib.hid RU
  obtain ⟨R, hR⟩ : ∃ x, x = Xml.attributes f s [] := ⟨_, rfl⟩
  have M0 : Hid (AtI w0 C w p A c R (.slice none 0 0) w) := ⟨s, f, [], ⟨h, OwnHA.nil _ _, FrX.refl _ _ _, h.bel.size⟩, hf, by simp; omega, by simp, hR⟩
  rw [← hR]
  clear h NU IX RU hR hf hl
  go_enter Tryz.func44, Tryz.ntmps44
  go_wp2_with fail
  go_loopw [3] (fun v3 wr => ∃ (A3 : Option Addr) (on c3 : Nat), v3 = .slice A3 on c3 ∧ Hid (AtI w0 C w p A c R (.slice A3 on c3) wr)) (fun _ wr => restN wr p)
  case atStart => exact ⟨none, 0, 0, rfl, M0⟩
  case round =>
    clear M0
    obtain ⟨A3, on, c3, rfl, s1, f1, l1, T1, m1, m2, mn, hR⟩ := hrel
    obtain ⟨f2, rfl⟩ : ∃ k, f1 = k + 1 := ⟨f1 - 1, by omega⟩
    have T1 := Lib.hid T1
    have MN := Lib.hid mn
    have RN := Lib.hid (restN_is T1.out.rd)
    have E := Lib.hid hR
    have k1 := Xml.white_le s1
    have WH := Lib.hid (whiteX_any T1.out.rd)
    clear hR mn
    go_wp2_with fail
    refine WH.out.mono ?_
    rintro e w2 ⟨rfl, r2, f2'⟩
    have T2 := Lib.hid (T1.out.read r2 f2')
    clear r2 f2' WH
    obtain ⟨s2, hs2⟩ : ∃ x, x = (Xml.white s1).2 := ⟨_, rfl⟩
    have c2 : w2.cell? ⟨p, 0, none⟩ = some (.string (S s2.rest)) := by rw [hs2]; exact T2.out.rd.blk.cell 0
    have ED : ∀ w9, AtR w0 C w p A c (.slice A3 on c3) s2 l1 w9 → Calls Tryz.prog 61 #[.slice A3 on c3] w9 fun e w' => e = .returned (.bool (Xml.distinct l1)) ∧ Below w9.heap.size w9 w' := fun w9 h9 => by
      obtain ⟨A', c', e, _, hAt⟩ := h9.own.any
      injection e with e1 e2 e3
      subst e1 e2 e3
      exact distX_any w9 A3 c3 l1 hAt (by omega) MN.out
    have ED := Lib.hid ED
    cases hw : (Xml.white s1).1 with
    | false =>
      have E2 : Hid (R = if Xml.distinct l1 then .ok l1 s2 else .bad 30) := by show R = _; rw [E.out, hs2]; exact Xml.attr_stop (by rw [hw]; simp)
      rw [← hs2] at T2
      clear hs2 E
      go_wp2_with fail
      refine (ED.out _ T2.out).mono ?_
      rintro e w3 ⟨rfl, b3⟩
      have T3 := Lib.hid (T2.out.under b3)
      clear b3 ED
      cases hd : Xml.distinct l1 with
      | false =>
        rw [if_neg (by rw [hd]; simp)] at E2
        go_wp2_with fail
        refine (demand_bad _ _).mono ?_
        rintro e w4 ⟨rfl, rfl⟩
        exact ⟨rfl, T3.out.fr, EndsA.bad E2.out _⟩
      | true =>
        rw [if_pos hd] at E2
        go_wp2_with fail
        refine (demand_ok _ _).mono ?_
        rintro e w4 ⟨rfl, rfl⟩
        go_wp2_with fail
        go_ret
        exact ⟨T3.out.fr, EndsA.ok E2.out T3.out.own T3.out.rd⟩
    | true =>
      have NL := Lib.hid (fun u => namelen_any u s2.rest (by rw [hs2]; omega))
      by_cases hn : 0 < Xml.nameLen s2.rest
      · have z0 : (0 : Int) < (Xml.nameLen s2.rest : Int) := by omega
        have E2 := Lib.hid (E.out.trans (Xml.attr_go hw (by rw [← hs2]; exact hn)))
        rw [← hs2] at E2 T2
        rw [← hs2] at k1
        clear hs2 E ED hw hn
        obtain ⟨n9, h9⟩ : ∃ x, x = Xml.nameLen s2.rest := ⟨_, rfl⟩
        rw [← h9] at NL z0
        clear h9
        have FU := Lib.hid (fullX_any T2.out.rd (by omega))
        go_wp2_with fail
        refine (NL.out _).mono ?_
        rintro e w9 ⟨rfl, rfl⟩
        clear NL
        go_wp2_with fail
        refine FU.out.mono ?_
        rintro e w3 ⟨f3, X3⟩
        have G3 := Lib.hid f3
        clear f3 FU z0
        cases hu : Xml.fullName s2 with
        | bad n =>
          rw [hu] at X3 E2
          obtain rfl := X3
          exact ⟨rfl, T2.out.fr.trans G3.out, EndsA.bad E2.out _⟩
        | ok nm s3 =>
          rw [hu] at X3 E2
          obtain ⟨rfl, r3⟩ := X3
          have k3 := Xml.fullName_ok hu
          have T3 := Lib.hid (T2.out.read r3 G3.out)
          clear r3 G3 hu T2
          have E3 : Hid (R = (Xml.need (Xml.white s3).2 [61]).then fun _ s => (Xml.value f2 (Xml.white s).2).then fun v s => Xml.attributes f2 s (l1 ++ [(nm, v)])) := E2.out
          clear E2
          have k4 := Xml.white_le s3
          have WH := Lib.hid (whiteX_any T3.out.rd)
          go_wp2_with fail
          refine WH.out.mono ?_
          rintro e w4 ⟨rfl, r4, f4⟩
          have T4 := Lib.hid (T3.out.read r4 f4)
          clear r4 f4 WH T3
          have NE := Lib.hid (needX_any T4.out.rd [61])
          rw [show S [61] = ⟨#[61]⟩ from rfl] at NE
          go_wp2_with fail
          refine NE.out.mono ?_
          rintro e w5 ⟨f5, X5⟩
          have G5 := Lib.hid f5
          clear f5 NE
          cases hu : Xml.need (Xml.white s3).2 [61] with
          | bad n =>
            rw [hu] at X5 E3
            obtain rfl := X5
            exact ⟨rfl, T4.out.fr.trans G5.out, EndsA.bad E3.out _⟩
          | ok u5 s5 =>
            rw [hu] at X5 E3
            obtain ⟨rfl, r5⟩ := X5
            have k5 := Xml.need_ok hu
            simp only [List.length_singleton] at k5
            have T5 := Lib.hid (T4.out.read r5 G5.out)
            clear r5 G5 hu T4
            have E4 : Hid (R = (Xml.value f2 (Xml.white s5).2).then fun v s => Xml.attributes f2 s (l1 ++ [(nm, v)])) := E3.out
            clear E3
            have k6 := Xml.white_le s5
            have WH := Lib.hid (whiteX_any T5.out.rd)
            go_wp2_with fail
            refine WH.out.mono ?_
            rintro e w6 ⟨rfl, r6, f6⟩
            have T6 := Lib.hid (T5.out.read r6 f6)
            clear r6 f6 WH T5
            have CL := Lib.hid (fun u => fcloneX_any u (S nm) (by rw [S_size]; omega))
            go_wp2_with fail
            refine (CL.out _).mono ?_
            rintro e w7 ⟨rfl, b7⟩
            have T7 := Lib.hid (T6.out.under b7)
            clear b7 CL T6
            have VA := Lib.hid (valueX_any HN.out HI.out HR.out T7.out.rd (by omega) f2 (by omega))
            go_wp2_with fail
            refine VA.out.mono ?_
            rintro e w8 ⟨f8, X8⟩
            have G8 := Lib.hid f8
            clear f8 VA
            cases hu : Xml.value f2 (Xml.white s5).2 with
            | bad n =>
              rw [hu] at X8 E4
              obtain rfl := X8
              exact ⟨rfl, T7.out.fr.trans G8.out, EndsA.bad E4.out _⟩
            | ok va s8 =>
              rw [hu] at X8 E4
              obtain ⟨rfl, r8⟩ := X8
              have k8 := Xml.value_ok hu
              have T8 := Lib.hid (T7.out.read r8 G8.out)
              clear r8 G8 hu T7
              have E5 : Hid (R = Xml.attributes f2 s8 (l1 ++ [(nm, va)])) := E4.out
              clear E4
              have AU : Hid (Below w8.heap.size w8 (w8.alloc (.cells #[.string (S nm), .string (S va)] 36))) := (Below.refl _ _).alloc (Nat.le_refl _) _
              have TU := Lib.hid (T8.out.under AU.out)
              go_wp2_with (at_builtin; refine wpList_append_hA rfl _ _ rfl w.heap.size _ l1 rfl TU.out.own ⟨w8.heap.size, 0, none⟩ 1 1 [(nm, va)] rfl rfl ?qa ?qb ?qc ?_)
              case qa => exact head_oneA w8 (S nm) (S va) 36 (0, 0) _ rfl
              case qb => omega
              case qc => exact TU.out.fr.size
              intro v' w9 hown hg
              have B9 := Lib.hid (RdX.beside TU.out.rd TU.out.own hg TU.out.rd.bel.size TU.out.fr rfl TU.out.lo)
              obtain ⟨A9, c9, rfl, _⟩ := hown.any
              obtain ⟨tn, htn⟩ : ∃ x, x = (l1 ++ [(nm, va)]).length := ⟨_, rfl⟩
              have tl : (l1 ++ [(nm, va)]).length = l1.length + 1 := by simp
              rw [← htn] at hown ⊢
              have T9 : Hid (AtR w0 C w p A c (.slice A9 tn c9) s8 (l1 ++ [(nm, va)]) w9) := ⟨B9.out.1, hown, B9.out.2, TU.out.lo⟩
              have M9 : Hid (AtI w0 C w p A c R (.slice A9 tn c9) w9) := ⟨s8, f2, _, T9.out, by omega, by omega, fun x hx => by
                rcases List.mem_append.1 hx with hx | hx
                · exact MN.out x hx
                · have : x = (nm, va) := by simpa using hx
                  subst this
                  show nm.length ≤ _
                  omega, E5.out⟩
              have MS : Hid (restN w9 p < restN wr p) := by show _ < _; rw [RN.out, restN_is T9.out.rd]; omega
              clear hown hg AU TU T8 htn tl
              go_wp2_with fail
              go_roundw
              case rel => exact ⟨A9, tn, c9, rfl, M9⟩
              case measure => exact MS.out
      · obtain h9 : Xml.nameLen s2.rest = 0 := by omega
        rw [h9] at NL
        have E2 : Hid (R = if Xml.distinct l1 then .ok l1 s2 else .bad 30) := by show R = _; rw [E.out, hs2]; exact Xml.attr_stop (fun hc => hn (by rw [hs2]; exact hc.2))
        rw [← hs2] at T2
        clear hs2 E
        go_wp2_with fail
        refine (NL.out _).mono ?_
        rintro e w9 ⟨rfl, rfl⟩
        clear NL
        go_wp2_with fail
        refine (ED.out _ T2.out).mono ?_
        rintro e w3 ⟨rfl, b3⟩
        have T3 := Lib.hid (T2.out.under b3)
        clear b3 ED
        cases hd : Xml.distinct l1 with
        | false =>
          rw [if_neg (by rw [hd]; simp)] at E2
          go_wp2_with fail
          refine (demand_bad _ _).mono ?_
          rintro e w4 ⟨rfl, rfl⟩
          exact ⟨rfl, T3.out.fr, EndsA.bad E2.out _⟩
        | true =>
          rw [if_pos hd] at E2
          go_wp2_with fail
          refine (demand_ok _ _).mono ?_
          rintro e w4 ⟨rfl, rfl⟩
          go_wp2_with fail
          go_ret
          exact ⟨T3.out.fr, EndsA.ok E2.out T3.out.own T3.out.rd⟩
end
end Go.Proofs.YteefjmdallpihaaGreatDoor

namespace Go.Proofs.YteefjmdallpihaaGreatDoor
open Go.RowKit Reply

/-- A node's cells. -/
structure NC where
  text : B
  space : B
  name : B
  attrs : Value
  kids : Value
def NC.row (n : NC) : List Value := [.string (S n.text), .string (S n.space), .string (S n.name), n.attrs, n.kids]
def NC.val (n : NC) : Value := .agg #[.string (S n.text), .string (S n.space), .string (S n.name), n.attrs, n.kids]
def NC.Slices (n : NC) : Prop := (∃ A k c, n.attrs = .slice A k c) ∧ ∃ A k c, n.kids = .slice A k c
def rowN (l : List NC) : List Value := l.flatMap NC.row
theorem rowN_length (l : List NC) : (rowN l).length = l.length * 5 := by
  induction l with
  | nil => rfl
  | cons b r ih => unfold rowN at ih ⊢; rw [List.flatMap_cons, List.length_append, ih]; simp [NC.row]; omega
theorem rowN_append (a b : List NC) : rowN (a ++ b) = rowN a ++ rowN b := by unfold rowN; rw [List.flatMap_append]
theorem rowN_at (l : List NC) (k : Nat) (b : NC) (h : l[k]? = some b) : (rowN l)[k * 5]? = some (.string (S b.text)) ∧ (rowN l)[k * 5 + 1]? = some (.string (S b.space)) ∧ (rowN l)[k * 5 + 2]? = some (.string (S b.name)) ∧ (rowN l)[k * 5 + 3]? = some b.attrs ∧ (rowN l)[k * 5 + 4]? = some b.kids := by
  induction l generalizing k with
  | nil => simp at h
  | cons x r ih =>
    have e : rowN (x :: r) = .string (S x.text) :: .string (S x.space) :: .string (S x.name) :: x.attrs :: x.kids :: rowN r := rfl
    rw [e]
    rcases k with _ | k
    · have : x = b := by simpa using h
      subst this
      exact ⟨rfl, rfl, rfl, rfl, rfl⟩
    · have h2 : r[k]? = some b := by simpa using h
      have := ih k h2
      rw [show (k + 1) * 5 = k * 5 + 1 + 1 + 1 + 1 + 1 by omega]
      exact this
theorem infoHN : (Tryz.prog.info? 28).map (fun i => (i.zero, i.size, i.bytes)) = some (some (.agg #[.string ⟨#[]⟩, .string ⟨#[]⟩, .string ⟨#[]⟩, .slice none 0 0, .slice none 0 0]), 5, 96) := by kernel_rfl
/-- Cells that hold a list of nodes. -/
def HAtN (w : World) (A : Option Addr) (l : List NC) : Prop := 0 < l.length → ∃ g off, A = some ⟨g, off, none⟩ ∧ g < w.heap.size ∧ ∀ j u, (rowN l)[j]? = some u → w.cell? ⟨g, off + j, none⟩ = some u
def OwnHN (w : World) (base : Nat) (v : Value) (l : List NC) : Prop := w.ownsRow base 28 5 v l.length (rowN l)
section
variable {w w' : World} {base : Nat} {v : Value} {l : List NC} {A : Option Addr}
theorem OwnHN.nil (w : World) (base : Nat) : OwnHN w base (.slice none 0 0) [] := ⟨rfl, .inl ⟨rfl, rfl⟩⟩
theorem OwnHN.any (h : OwnHN w base v l) : ∃ A c, v = .slice A l.length c ∧ l.length ≤ c ∧ HAtN w A l := by
  rcases h.2 with ⟨rfl, h0⟩ | ⟨g, cap, cur, rfl, hg, hh, hn, hcap, hsz, htake⟩
  · exact ⟨none, 0, by rw [h0], by omega, fun hp => by omega⟩
  · refine ⟨_, cap, rfl, hn, fun _ => ⟨g, 0, rfl, (Array.getElem?_eq_some_iff.1 hh).1, fun j u hu => ?_⟩⟩
    have hj := (List.getElem?_eq_some_iff.1 hu).1
    rw [rowN_length] at hj
    rw [← htake, List.getElem?_take, if_pos hj] at hu
    rw [Nat.zero_add, cell_of_row w g j cur _ _ hh, ← Array.getElem?_toList]
    exact hu
theorem OwnHN.lt (h : OwnHN w base v l) : ∀ g, v.ownBlock = some g → base ≤ g ∧ g < w.heap.size := World.ownsRow.lt h
theorem OwnHN.alloc (h : OwnHN w base v l) (o : Obj) : OwnHN (w.alloc o) base v l := World.ownsRow.alloc h o
theorem OwnHN.below (h : OwnHN w base v l) (k : Below w.heap.size w w') : OwnHN w' base v l := by
  refine ⟨h.1, ?_⟩
  rcases h.2 with h0 | ⟨g, cap, cur, rfl, hg, hh, r⟩
  · exact .inl h0
  · exact .inr ⟨g, cap, cur, rfl, hg, (k.block g (Array.getElem?_eq_some_iff.1 hh).1).trans hh, r⟩
theorem HAtN.below (h : HAtN w A l) (k : Below w.heap.size w w') : HAtN w' A l := fun hp => by
  obtain ⟨g, off, e, hl, hc⟩ := h hp
  exact ⟨g, off, e, Nat.lt_of_lt_of_le hl k.size, fun j u hu => (k.cell (p := ⟨g, off + j, none⟩) hl).trans (hc j u hu)⟩
theorem HAtN.at_ (h : HAtN w A l) {k : Nat} (hk : k < l.length) : ∃ g off, A = some ⟨g, off, none⟩ ∧ w.cell? ⟨g, off + k * 5, none⟩ = some (.string (S l[k].text)) ∧ w.cell? ⟨g, off + k * 5 + 1, none⟩ = some (.string (S l[k].space)) ∧ w.cell? ⟨g, off + k * 5 + 2, none⟩ = some (.string (S l[k].name)) ∧ w.cell? ⟨g, off + k * 5 + 3, none⟩ = some l[k].attrs ∧ w.cell? ⟨g, off + k * 5 + 4, none⟩ = some l[k].kids := by
  obtain ⟨g, off, e, _, hc⟩ := h (by omega)
  obtain ⟨a, b, c, d, f⟩ := rowN_at l k l[k] (List.getElem?_eq_getElem hk)
  exact ⟨g, off, e, hc _ _ a, by rw [Nat.add_assoc]; exact hc _ _ b, by rw [Nat.add_assoc]; exact hc _ _ c, by rw [Nat.add_assoc]; exact hc _ _ d, by rw [Nat.add_assoc]; exact hc _ _ f⟩
theorem HAtN.nil (w : World) (A : Option Addr) : HAtN w A [] := fun h => by simp at h
/-- append(v, x...). -/
theorem run_append_hN (base : Nat) (ty : TypeId) (v : Value) (k : List NC) (hown : OwnHN w base v k) (ad : Addr) (m c : Nat) (l : List NC) (hl : l.length = m) (hF : ∀ x ∈ l, x.Slices) (hA : HAtN w (some ad) l) (hr : k.length + m ≤ 100000) (hbase : base ≤ w.heap.size) :
    ∃ v' w', (Builtin.append_ #[26, 26] ty #[v, .slice (some ad) m c]).run Tryz.prog w = .ok v' w' ∧ OwnHN w' base v' (k ++ l) ∧ w.grownBy w' v.ownBlock ∧ (v'.ownBlock = v.ownBlock ∨ v'.ownBlock = some w.heap.size) := by
  obtain ⟨i, hi, hz, hsize, hby⟩ := info_parts infoHN
  obtain ⟨v', w', hrun, h2, h3, _, h5⟩ := run_append_own_at (P := Tryz.prog) w base 26 ty 28 i (.agg #[.string ⟨#[]⟩, .string ⟨#[]⟩, .string ⟨#[]⟩, .slice none 0 0, .slice none 0 0]) 5 96 Tryz.underlying26 hi hz hsize hby rfl (by omega) v k.length (rowN k) hown ad m c (rowN l) (by rw [rowN_length, hl])
    (fun j u hu => by
      have hj := (List.getElem?_eq_some_iff.1 hu).1
      rw [rowN_length] at hj
      obtain ⟨g, off, e, _, hc⟩ := hA (by omega)
      cases e
      rw [WideShapes.add_plain]
      exact hc j u hu)
    (fun u hu => by
      obtain ⟨b, hb, hb'⟩ := List.mem_flatMap.1 hu
      obtain ⟨⟨A1, n1, c1, q1⟩, A2, n2, c2, q2⟩ := hF b hb
      unfold NC.row at hb'
      rw [q1, q2] at hb'
      simp only [List.mem_cons, List.not_mem_nil, or_false] at hb'
      rcases hb' with rfl | rfl | rfl | rfl | rfl <;> rfl) (by simp only [maxLen]; omega) (by omega) hbase
  exact ⟨v', w', hrun, by unfold OwnHN; rw [List.length_append, rowN_append, hl]; exact h2, h3, h5⟩
end
set_option maxRecDepth 100000 in
theorem wpList_append_hN {w : World} {ops : Array Oper} {rest : List Oper} {o : Oper} {a : Act} {Q : Exit → Act → World → Prop} (hgd : o.guard = none) (s x : Operand)
    (ho : o.op = .call { callee := .builtin .append, args := #[s, x], argTypes := #[26, 26] })
    (base : Nat) (v : Value) (k : List NC) (hs : a.eval s = v) (hown : OwnHN w base v k)
    (ad : Addr) (m c : Nat) (l : List NC) (hx : a.eval x = .slice (some ad) m c) (hl : l.length = m) (hF : ∀ x ∈ l, x.Slices) (hA : HAtN w (some ad) l) (hr : k.length + m ≤ 100000) (hbase : base ≤ w.heap.size)
    (h : ∀ v' w', OwnHN w' base v' (k ++ l) → w.grownBy w' v.ownBlock → (v'.ownBlock = v.ownBlock ∨ v'.ownBlock = some w.heap.size) → wpList Tryz.prog ops Q rest (a.put o.dst v') w') : wpList Tryz.prog ops Q (o :: rest) a w := by
  obtain ⟨v', w', hrun, h2, h3, h5⟩ := run_append_hN base o.type v k hown ad m c l hl hF hA hr hbase
  refine wpList_plain hgd fun _ hK => ?_
  unfold Oper.wp execOp
  simp only [ho, resolve, invoke, builtin, Sem.run_bind, Sem.run_pure, Result.andThen_ok, List.map_toArray, List.map_cons, List.map_nil, hs, hx, hrun]
  exact hK _ _ (h v' w' h2 h3 h5)
theorem OwnHN.grown {base : Nat} {v : Value} {l : List NC} {a w w' : World} (ho : OwnHN w base v l) (hb : Below base a w) (hg : w.grownBy w' v.ownBlock) (hs : base ≤ w.heap.size) : Below base a w' :=
  hb.trans ⟨hg.os, hg.tape, hg.output, hg.size, fun k hk => hg.block k (by omega) (fun e => by
    have := (ho.lt k e.symm).1
    omega)⟩
theorem head_oneN (w : World) (n : NC) (e : TypeId) (m : Nat × Nat) (b : Nat) (hb : b = w.heap.size) : HAtN (w.alloc (.cells #[.string (S n.text), .string (S n.space), .string (S n.name), n.attrs, n.kids] e m)) (some ⟨b, 0, none⟩) [n] := by
  subst hb
  refine fun _ => ⟨_, 0, rfl, by simp, fun j u hu => ?_⟩
  have e1 : rowN [n] = [.string (S n.text), .string (S n.space), .string (S n.name), n.attrs, n.kids] := rfl
  rw [e1] at hu
  rw [Nat.zero_add, World.cell?_alloc_mark]
  simpa using hu
/-- A row whose block is where P says. -/
def InP (P : Nat → Prop) (v : Value) : Prop := ∀ g, v.ownBlock = some g → P g
mutual
/-- A tree in memory, whose rows lie where P says. -/
def NdV (w : World) (P : Nat → Prop) : Xml.Nd → NC → Prop
  | .mk t sp nm al ks, n => n.text = t ∧ n.space = sp ∧ n.name = nm ∧ OwnHA w 0 n.attrs al ∧ InP P n.attrs ∧ ∃ l : List NC, OwnHN w 0 n.kids l ∧ InP P n.kids ∧ NdsV w P ks l
def NdsV (w : World) (P : Nat → Prop) : List Xml.Nd → List NC → Prop
  | [], l => l = []
  | k :: ks, l => ∃ n r, l = n :: r ∧ NdV w P k n ∧ NdsV w P ks r
end
/-- What keeps the rows of trees that lie where P says. -/
def KeepN (w w' : World) (P Q : Nat → Prop) : Prop := ∀ (k : Nat) (cs : Array Value) (t : TypeId) (m : Nat × Nat), P k → w.heap[k]? = some (.cells cs t m) → (t = 36 ∨ t = 28) → w'.heap[k]? = w.heap[k]? ∧ Q k
section
variable {w w' : World} {P Q : Nat → Prop}
theorem row_keep {e : TypeId} {size n : Nat} {v : Value} {xs : List Value} (h : KeepN w w' P Q) (he : e = 36 ∨ e = 28) (ho : w.ownsRow 0 e size v n xs) (hi : InP P v) : w'.ownsRow 0 e size v n xs ∧ InP Q v := by
  rcases ho.2 with ⟨rfl, h0⟩ | ⟨g, cap, cur, rfl, hg, hh, r⟩
  · exact ⟨⟨ho.1, .inl ⟨rfl, h0⟩⟩, fun g e => by cases e⟩
  · have k := h g cur e (0, 0) (hi g rfl) hh he
    refine ⟨⟨ho.1, .inr ⟨g, cap, cur, rfl, hg, k.1.trans hh, r⟩⟩, fun g' e' => ?_⟩
    have : g = g' := by simpa [Value.ownBlock] using e'
    exact this ▸ k.2
mutual
theorem NdV.keep (h : KeepN w w' P Q) : ∀ (d : Xml.Nd) (n : NC), NdV w P d n → NdV w' Q d n
  | .mk t sp nm al ks, n, hd => by
    unfold NdV at hd ⊢
    obtain ⟨h1, h2, h3, h4, h5, l, h6, h7, h8⟩ := hd
    have a := row_keep h (.inl rfl) h4 h5
    have b := row_keep h (.inr rfl) h6 h7
    exact ⟨h1, h2, h3, a.1, a.2, l, b.1, b.2, NdsV.keep h ks l h8⟩
theorem NdsV.keep (h : KeepN w w' P Q) : ∀ (ks : List Xml.Nd) (l : List NC), NdsV w P ks l → NdsV w' Q ks l
  | [], l, hd => by unfold NdsV at hd ⊢; exact hd
  | k :: ks, l, hd => by
    unfold NdsV at hd ⊢
    obtain ⟨n, r, h1, h2, h3⟩ := hd
    exact ⟨n, r, h1, NdV.keep h k n h2, NdsV.keep h ks r h3⟩
end
theorem NdsV.snoc : ∀ {ks : List Xml.Nd} {l : List NC} {d : Xml.Nd} {n : NC}, NdsV w P ks l → NdV w P d n → NdsV w P (ks ++ [d]) (l ++ [n])
  | [], l, d, n, h, k => by
    unfold NdsV at h
    subst h
    show NdsV w P [d] [n]
    unfold NdsV
    exact ⟨n, [], rfl, k, by unfold NdsV; rfl⟩
  | x :: ks, l, d, n, h, k => by
    unfold NdsV at h
    obtain ⟨m, r, rfl, h1, h2⟩ := h
    show NdsV w P (x :: (ks ++ [d])) (m :: (r ++ [n]))
    unfold NdsV
    exact ⟨m, r ++ [n], rfl, h1, NdsV.snoc h2 k⟩
theorem NdsV.length : ∀ {ks : List Xml.Nd} {l : List NC}, NdsV w P ks l → l.length = ks.length
  | [], l, h => by unfold NdsV at h; subst h; rfl
  | x :: ks, l, h => by
    unfold NdsV at h
    obtain ⟨m, r, rfl, h1, h2⟩ := h
    simp [NdsV.length h2]
theorem own_slice {base : Nat} {e : TypeId} {size n : Nat} {v : Value} {xs : List Value} (ho : w.ownsRow base e size v n xs) : ∃ A k c, v = .slice A k c := by
  rcases ho.2 with ⟨rfl, _⟩ | ⟨g, cap, cur, rfl, _⟩ <;> exact ⟨_, _, _, rfl⟩
theorem NdV.slices {d : Xml.Nd} {n : NC} (h : NdV w P d n) : n.Slices := by
  obtain ⟨t, sp, nm, al, ks⟩ := d
  unfold NdV at h
  obtain ⟨h1, h2, h3, h4, h5, l, h6, h7, h8⟩ := h
  exact ⟨own_slice h4, own_slice h6⟩
theorem FrX.keepN {C p : Nat} {cs : Array Value} (f : FrX C p w w') (hp : Held w p 56 cs) (hq : ∀ k, P k → Q k) : KeepN w w' P Q := fun k cs' t m hk hh ht => ⟨f.block k (Array.getElem?_eq_some_iff.1 hh).1 (fun e => by
    subst e
    have e := hh.symm.trans hp
    injection e with e
    injection e with _ e _
    rcases ht with ht | ht <;> rw [ht] at e <;> exact absurd e (by decide)) (fun cs2 t2 m2 h2 e => by
    have e2 := hh.symm.trans h2
    injection e2 with e2
    injection e2 with _ e2 _
    rw [e.2] at e2
    rcases ht with ht | ht <;> rw [ht] at e2 <;> exact absurd e2 (by decide)), hq k hk⟩
theorem KeepN.below (h : Below w.heap.size w w') (hq : ∀ k, P k → Q k) : KeepN w w' P Q := fun k _ _ _ hk hh _ => ⟨h.block k (Array.getElem?_eq_some_iff.1 hh).1, hq k hk⟩
theorem KeepN.set {b i : Nat} {u : Value} (hb : ∀ k, P k → k ≠ b ∧ Q k) : KeepN w (w.setCell ⟨b, i, none⟩ u) P Q := fun k _ _ _ hk _ _ => ⟨Below.heap_setCell w ⟨b, i, none⟩ u k (hb k hk).1, (hb k hk).2⟩
theorem KeepN.grown {r : Option Nat} (h : w.grownBy w' r) (hb : ∀ k, P k → k < w.heap.size → some k ≠ r ∧ Q k) : KeepN w w' P Q := fun k _ _ _ hk hh _ => by
  have hl := (Array.getElem?_eq_some_iff.1 hh).1
  exact ⟨h.block k hl (hb k hk hl).1, (hb k hk hl).2⟩
end
end Go.Proofs.YteefjmdallpihaaGreatDoor

namespace Go.Proofs.YteefjmdallpihaaGreatDoor
namespace Xml
open Go.Lib
theorem text_ok : ∀ (f : Nat) {s s' : St} {l l' : B}, text f s l = .ok l' s' → s'.rest.length ≤ s.rest.length ∧ s'.spaces = s.spaces
  | 0, s, s', l, l', h => by cases h
  | f + 1, s, s', l, l', h => by
    cases hr : remark s with
    | bad n => rw [text_bad hr] at h; cases h
    | ok b s1 =>
      have k := remark_ok hr
      cases b with
      | true =>
        rw [text_rem hr] at h
        have ih := text_ok f h
        exact ⟨by omega, ih.2.trans k.2.2.2⟩
      | false =>
        rw [text_else hr] at h
        split at h
        · rename_i hk
          have k1 := skip_le s tCdata
          cases hu : upto (skip s tCdata).2 tCdataEnd with
          | bad n => rw [hu] at h; cases h
          | ok a s2 =>
            rw [hu] at h
            have k2 := upto_ok hu
            have ih := text_ok f h
            exact ⟨by omega, ih.2.trans (k2.2.trans k1.2)⟩
        · split at h
          · have k1 := skip_le s [38]
            cases hu : reference (skip s [38]).2 with
            | bad n => rw [hu] at h; cases h
            | ok a s2 =>
              rw [hu] at h
              have k2 := reference_ok hu
              have ih := text_ok f h
              exact ⟨by omega, ih.2.trans (k2.2.trans k1.2)⟩
          · split at h
            · injection h with _ h2
              subst h2
              exact ⟨Nat.le_refl _, rfl⟩
            · split at h
              · cases h
              · have ih := text_ok f h
                have k1 := plain_len s [60, 38]
                have k2 : (plain s [60, 38]).2.spaces = s.spaces := by unfold plain take; split <;> rfl
                exact ⟨by omega, ih.2.trans k2⟩
theorem declare_ok : ∀ (l : List (B × B)) {s s' : St} {o o' : List (B × B)}, declare s l o = .ok o' s' → s'.rest = s.rest ∧ (∃ x, s'.spaces = s.spaces ++ x ∧ x.length + o'.length ≤ l.length + o.length)
  | [], s, s', o, o', h => by
    injection h with h1 h2
    subst h1 h2
    exact ⟨rfl, [], by simp, by simp⟩
  | (n, v) :: r, s, s', o, o', h => by
    by_cases h1 : (split n).1 = wXmlns
    · by_cases h2 : v ≠ [] ∧ (split n).2 ≠ wXml ∧ (split n).2 ≠ wXmlns
      · rw [decl_mark h1 h2] at h
        obtain ⟨a, x, b, c⟩ := declare_ok r h
        refine ⟨a, [((split n).2, v)] ++ x, by rw [b]; simp, ?_⟩
        simp only [List.length_append, List.length_cons, List.length_nil] at c ⊢
        omega
      · rw [decl_mark_bad h1 h2] at h; cases h
    · by_cases h2 : n = wXmlns
      · rw [decl_plain h1 h2] at h
        obtain ⟨a, x, b, c⟩ := declare_ok r h
        refine ⟨a, [([], v)] ++ x, by rw [b]; simp, ?_⟩
        simp only [List.length_append, List.length_cons, List.length_nil] at c ⊢
        omega
      · by_cases h3 : (split n).1 = []
        · rw [decl_other h1 h2 h3] at h
          obtain ⟨a, x, b, c⟩ := declare_ok r h
          refine ⟨a, x, b, ?_⟩
          simp only [List.length_append, List.length_cons, List.length_nil] at c ⊢
          omega
        · rw [decl_other_bad h1 h2 h3] at h; cases h
theorem split_len (w : B) : (split w).2.length ≤ w.length := by
  unfold split
  split
  · rename_i hp
    have e := congrArg List.length (Reply.cut_back hp)
    rw [List.length_append, List.length_append] at e
    show (cut w [58]).2.1.length ≤ _
    omega
  · exact Nat.le_refl _
/-- What an element's tag leaves to do. -/
def elem2 (f : Nat) (n0 : Nat) (w : B) (al : List (B × B)) (s4 : St) : Res Nd := match spaceOf s4.spaces (split w).1 with
    | none => .bad 30
    | some sp =>
      if (skip s4 [47, 62]).1 then .ok (.mk [] sp (split w).2 al []) { (skip s4 [47, 62]).2 with spaces := s4.spaces.take n0 }
      else (need s4 [62]).then fun _ s5 => (content f s5 []).then fun ks s6 => (need s6 ([60, 47] ++ w)).then fun _ s7 => (need (white s7).2 [62]).then fun _ s8 =>
        .ok (.mk [] sp (split w).2 al ks) { s8 with spaces := s8.spaces.take n0 }
theorem element_eq (f : Nat) (s : St) : element (f + 1) s = (need s [60]).then fun _ s1 => (fullName s1).then fun w s2 => (attributes f s2 []).then fun l s3 => (declare s3 l []).then fun al s4 => elem2 f s.spaces.length w al s4 := by
  rw [element]; rfl
theorem content_eq (f : Nat) (s : St) (l : List Nd) : content (f + 1) s l = (text f s []).then fun t s =>
    if hasPrefix s.rest [60, 47] then .ok (if t = [] then l else l ++ [.mk t [] [] [] []]) s else (element f s).then fun n s => content f s ((if t = [] then l else l ++ [.mk t [] [] [] []]) ++ [n]) := by
  rw [content]
mutual
theorem element_ok : ∀ (f : Nat) {s s' : St} {n : Nd}, element f s = .ok n s' → s'.rest.length + 4 ≤ s.rest.length ∧ s'.spaces = s.spaces
  | 0, s, s', n, h => by rw [element] at h; cases h
  | f + 1, s, s', n, h => by
    rw [element_eq] at h
    cases h1 : need s [60] with
    | bad n => rw [h1] at h; cases h
    | ok u s1 =>
      rw [h1] at h
      have k1 := need_ok h1
      simp only [Res.then] at h
      cases h2 : fullName s1 with
      | bad n => rw [h2] at h; cases h
      | ok w s2 =>
        rw [h2] at h
        have k2 := fullName_ok h2
        simp only at h
        cases h3 : attributes f s2 [] with
        | bad n => rw [h3] at h; cases h
        | ok l s3 =>
          rw [h3] at h
          have k3 := attributes_ok f h3
          simp only at h
          cases h4 : declare s3 l [] with
          | bad n => rw [h4] at h; cases h
          | ok al s4 =>
            rw [h4] at h
            obtain ⟨k4, x, k5, _⟩ := declare_ok l h4
            simp only at h
            have e4 : s4.spaces = s.spaces ++ x := by rw [k5, k3.2.1, k2.2.2, k1.2]
            simp only [List.length_singleton, List.length_nil] at k1 k3
            unfold elem2 at h
            cases hs : spaceOf s4.spaces (split w).1 with
            | none => rw [hs] at h; cases h
            | some sp =>
              rw [hs] at h
              simp only at h
              have r4 : s4.rest.length = s3.rest.length := by rw [k4]
              split at h
              · rename_i hk
                have k6 := skip_lt s4 [47, 62] hk
                injection h with _ h
                subst h
                refine ⟨?_, ?_⟩
                · show (skip s4 [47, 62]).2.rest.length + 4 ≤ _
                  simp only [List.length_cons, List.length_nil] at k6
                  omega
                · show s4.spaces.take s.spaces.length = _
                  rw [e4]; simp
              · cases h5 : need s4 [62] with
                | bad n => rw [h5] at h; cases h
                | ok u s5 =>
                  rw [h5] at h
                  have k6 := need_ok h5
                  simp only [Res.then] at h
                  cases h6 : content f s5 [] with
                  | bad n => rw [h6] at h; cases h
                  | ok ks s6 =>
                    rw [h6] at h
                    have k7 := content_ok f h6
                    simp only at h
                    cases h7 : need s6 ([60, 47] ++ w) with
                    | bad n => rw [h7] at h; cases h
                    | ok u s7 =>
                      rw [h7] at h
                      have k8 := need_ok h7
                      have k9 := white_le s7
                      simp only at h
                      cases h8 : need (white s7).2 [62] with
                      | bad n => rw [h8] at h; cases h
                      | ok u s8 =>
                        rw [h8] at h
                        have k10 := need_ok h8
                        injection h with _ h
                        subst h
                        simp only [List.length_append, List.length_cons, List.length_nil] at k6 k8 k10
                        refine ⟨?_, ?_⟩
                        · show s8.rest.length + 4 ≤ _
                          omega
                        · show s8.spaces.take s.spaces.length = _
                          rw [k10.2, k9.2, k8.2, k7.2.1, k6.2, e4]; simp
theorem content_ok : ∀ (f : Nat) {s s' : St} {l l' : List Nd}, content f s l = .ok l' s' → s'.rest.length ≤ s.rest.length ∧ s'.spaces = s.spaces ∧ True
  | 0, s, s', l, l', h => by rw [content] at h; cases h
  | f + 1, s, s', l, l', h => by
    rw [content_eq] at h
    cases h1 : text f s [] with
    | bad n => rw [h1] at h; cases h
    | ok t s1 =>
      rw [h1] at h
      have k1 := text_ok f h1
      simp only [Res.then] at h
      split at h
      · injection h with _ h
        subst h
        exact ⟨k1.1, k1.2, trivial⟩
      · cases h2 : element f s1 with
        | bad n => rw [h2] at h; cases h
        | ok n s2 =>
          rw [h2] at h
          have k2 := element_ok f h2
          simp only at h
          have ih := content_ok f h
          exact ⟨by omega, ih.2.1.trans (k2.2.trans k1.2), trivial⟩
end
end Xml
open Go.RowKit Reply Go.Shelf

/-- What a call ends with that tells a node, or a row of them. -/
def EndsNd (w0 : World) (C p B0 : Nat) (r : Xml.Res Xml.Nd) (e : Ending) (w' : World) : Prop := match r with
  | .bad n => e = .panicked [{ v := troubleX n, recovered := false }]
  | .ok d s' => ∃ n : NC, e = .returned n.val ∧ NdV w' (fun k => B0 ≤ k) d n ∧ ∃ A c, RdX w0 C w' p s' A c
def EndsK (w0 : World) (C p B0 : Nat) (r : Xml.Res (List Xml.Nd)) (e : Ending) (w' : World) : Prop := match r with
  | .bad n => e = .panicked [{ v := troubleX n, recovered := false }]
  | .ok d s' => ∃ v l, e = .returned v ∧ OwnHN w' B0 v l ∧ NdsV w' (fun k => B0 ≤ k) d l ∧ ∃ A c, RdX w0 C w' p s' A c
section
variable {w0 w' : World} {C p B0 n : Nat} {s : Xml.St} {A : Option Addr} {c : Nat}
theorem EndsNd.bad {r : Xml.Res Xml.Nd} (h : r = .bad n) : EndsNd w0 C p B0 r (.panicked [{ v := troubleX n, recovered := false }]) w' := by rw [h]; rfl
theorem EndsNd.ok {r : Xml.Res Xml.Nd} {d : Xml.Nd} {m : NC} {v : Value} (h : r = .ok d s) (hv : v = m.val) (h2 : NdV w' (fun k => B0 ≤ k) d m) (k : RdX w0 C w' p s A c) : EndsNd w0 C p B0 r (.returned v) w' := by rw [h, hv]; exact ⟨m, rfl, h2, A, c, k⟩
theorem EndsK.bad {r : Xml.Res (List Xml.Nd)} (h : r = .bad n) : EndsK w0 C p B0 r (.panicked [{ v := troubleX n, recovered := false }]) w' := by rw [h]; rfl
theorem EndsK.ok {r : Xml.Res (List Xml.Nd)} {d : List Xml.Nd} {l : List NC} {v : Value} (h : r = .ok d s) (h1 : OwnHN w' B0 v l) (h2 : NdsV w' (fun k => B0 ≤ k) d l) (k : RdX w0 C w' p s A c) : EndsK w0 C p B0 r (.returned v) w' := by rw [h]; exact ⟨v, l, rfl, h1, h2, A, c, k⟩
end
/-- What is asked of a reader ahead of an element, or of what is in one. -/
structure Roomy (s : Xml.St) : Prop where
  few : s.rest.length ≤ 65536
  all : s.spaces.length + s.rest.length ≤ 70000
def ElemC (f : Nat) : Prop := ∀ (w0 w : World) (C p : Nat) (s : Xml.St) (A : Option Addr) (c : Nat), RdX w0 C w p s A c → Roomy s → s.rest.length + 1 ≤ f →
  Calls Tryz.prog 28 #[.pointer (some ⟨p, 0, none⟩)] w fun e w' => FrX C p w w' ∧ EndsNd w0 C p w.heap.size (Xml.element f s) e w'
def ContC (f : Nat) : Prop := ∀ (w0 w : World) (C p : Nat) (s : Xml.St) (A : Option Addr) (c : Nat), RdX w0 C w p s A c → Roomy s → s.rest.length + 2 ≤ f →
  Calls Tryz.prog 47 #[.pointer (some ⟨p, 0, none⟩)] w fun e w' => FrX C p w w' ∧ EndsK w0 C p w.heap.size (Xml.content f s []) e w'
theorem needX_lit {w0 w : World} {C p : Nat} {s : Xml.St} {A : Option Addr} {c : Nat} (h : RdX w0 C w p s A c) (t : Reply.B) (u : ByteArray) (hu : u = S t) :
    Calls Tryz.prog 40 #[.pointer (some ⟨p, 0, none⟩), .string u] w fun e w' => FrX C p w w' ∧ match Xml.need s t with
      | .bad n => e = .panicked [{ v := troubleX n, recovered := false }]
      | .ok _ s' => e = .returned (.tuple #[]) ∧ RdX w0 C w' p s' A c := by
  rw [hu]; exact needX_any h t
/-- The row of namespaces is cut. -/
theorem OwnHS.cut {w : World} {base k c : Nat} {A : Option Addr} {l : List (Reply.B × Reply.B)} (h : OwnHS w base (.slice A l.length c) l) (hk : k ≤ l.length) : OwnHS w base (.slice A k c) (l.take k) := by
  have hl : (l.take k).length = k := by rw [List.length_take]; omega
  refine ⟨by rw [rowP_length], ?_⟩
  rcases h.2 with ⟨h1, h0⟩ | ⟨g, cap, cur, hv, hg, hh, hn, hcap, hsz, htake⟩
  · left
    injection h1 with h1 h2 h3
    subst h1 h3
    exact ⟨by rw [show k = 0 by omega], by omega⟩
  · right
    injection hv with h1 h2 h3
    subst h1 h3
    refine ⟨g, c, cur, by rw [hl], hg, hh, by rw [hl]; omega, hcap, hsz, ?_⟩
    rw [hl]
    have e1 : rowP (l.take k) ++ rowP (l.drop k) = rowP l := by rw [← rowP_append, List.take_append_drop]
    have e2 : (rowP (l.take k)).length = k * 2 := by rw [rowP_length, hl]
    have e3 : rowP (l.take k) = (rowP l).take (k * 2) := by rw [← e1, ← e2]; exact List.take_left.symm
    rw [e3, ← htake, List.take_take, Nat.min_eq_left (by omega)]
end Go.Proofs.YteefjmdallpihaaGreatDoor
