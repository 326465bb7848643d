/-
  BtreeMem: a store in memory: Take gives the lowest block that is free, full of zeros; Free, Write and Read do as told, and refuse what isn't taken. The arguments hold at most 1048576 values and letters together (the Upto form).
-/
import Derived.Test.YtnogmgnbhcmajaaDoorQBm5
import Derived.Test.YtnogmgnbhcmajaaDoorQBf
namespace Go.Proofs.YtnogmgnbhcmajaaDoor.btreeMem
open Go.ChangeShapes Go.WideShapes Go.ChangeAt Go.RowKit Wal

def sliceN : Value → Nat | .slice _ n _ => n | _ => 0
theorem OpsAt.get {w : World} {A : Option Addr} {n : Nat} {l : Nat → OT} (h : OpsAt w A n l) {i : Nat} (hi : i < n) : ∃ b off, A = some ⟨b, off, none⟩ ∧ b < w.heap.size ∧ w.cell? ⟨b, off + i * 4, none⟩ = some (.int .u8 ((l i).kind : Int)) ∧ w.cell? ⟨b, off + i * 4 + 1, none⟩ = some (.string (strB (l i).key)) ∧ w.cell? ⟨b, off + i * 4 + 2, none⟩ = some (.string (strB (l i).val)) ∧ w.cell? ⟨b, off + i * 4 + 3, none⟩ = some (.int .i64 (l i).most) := by
  obtain ⟨b, off, e, hl, hc⟩ := h.2 (by omega)
  exact ⟨b, off, e, hl, hc i hi 0 (by omega), hc i hi 1 (by omega), hc i hi 2 (by omega), hc i hi 3 (by omega)⟩
set_option maxRecDepth 100000 in
set_option maxHeartbeats 6400000 in
theorem walk (w : World) (k : Int) (A1 : Option Addr) (n1 c1 : Nat) (l1 : Nat → OT) (h1 : OpsAt w A1 n1 l1) (hn1 : n1 ≤ 9223372036854775807) :
    Calls Tryd.prog 3 #[.int .i64 k, .slice A1 n1 c1] w fun e w' => e = .returned (.bool true) ∧ Below w.heap.size w w' := by
  have H1 := Lib.hid h1
  have FX := Lib.hid (fixed_any w)
  have N1 : Hid (n1 ≤ 9223372036854775807) := hn1
  obtain ⟨n, hn⟩ : ∃ n, n = capN k := ⟨_, rfl⟩
  have hn4 : n ≤ 4096 := by rw [hn]; unfold capN; omega
  have CN : Hid (min (max k 0) 4096 = (n : Int)) := by show _ = _; rw [hn]; unfold capN; omega
  have HN := Lib.hid hn
  clear h1 hn1 hn
  go_enter Tryd.func3, Tryd.ntmps3
  go_wp2_with fail
  refine FX.out.mono ?_
  rintro e w1 ⟨rfl, hb1⟩
  have B1 := Lib.hid hb1
  have NM := Lib.hid (newmem_any w.heap.size w1 B1.out.size k)
  rw [← HN.out] at NM
  clear hb1 FX
  go_wp2_with fail
  refine NM.out.mono ?_
  rintro e w2 ⟨p, rfl, hp, hm2, hb2⟩
  have B2 : Hid (Below w.heap.size w w2) := B1.out.trans (hb2.mono B1.out.size)
  have M2 : Hid (MemAt w.heap.size w2 p n fun _ => none) := hm2
  clear hb2 hm2 hp NM B1
  go_wp2_with fail
  rw [CN.out]
  go_loopw [7, 8, 9] (fun v7 v8 vi wr => ∃ (i : Nat) (A7 A8 : Option Addr) (c7 c8 : Nat) (f : Nat → Option KB) (T : List Bool) (D : List (List Nat)), i ≤ 300 ∧ i ≤ n1 ∧ vi = .int .i64 i ∧ v7 = .slice A7 T.length c7 ∧ v8 = .slice A8 D.length c8 ∧ Hid (Twin n f T D ∧ Three w.heap.size wr p n f (.slice A7 T.length c7) (.slice A8 D.length c8) T D ∧ Below w.heap.size w wr)) (fun _ _ vi _ => 300 - (intOf vi).toNat)
  case atStart => exact ⟨0, none, none, 0, 0, _, [], [], by omega, by omega, rfl, rfl, rfl, Twin.nil n, ⟨M2.out, RowB.nil _ _, RowT.nil _ _⟩, B2.out⟩
  case round =>
    clear B2 M2
    obtain ⟨i, A7, A8, c7, c8, f, T, D, h300, hi, rfl, rfl, rfl, G⟩ := hrel
    by_cases hlt : i < n1
    · have im : (i : Int) < (n1 : Int) := by omega
      by_cases h3 : i < 300
      · have i3 : (i : Int) < 300 := by omega
        obtain ⟨b, off, rfl, hb, x0, x1, x2, x3⟩ := OpsAt.get (H1.out.kept G.out.2.2) hlt
        have OG := Lib.hid (H1.out.1 i hlt)
        have KG : Hid (∀ x ∈ (l1 i).key, x < 256) := OG.out.k8
        have BW0 : Hid (b < w.heap.size) := by
          obtain ⟨b', off', e, h, _⟩ := H1.out.2 (by omega)
          injection e with e
          injection e with e1 e2
          show b < _
          rw [e1]
          exact h
        generalize (l1 i).kind = kd at *
        generalize (l1 i).key = ky at *
        generalize (l1 i).val = vl at *
        have LO : Hid (-9223372036854775808 ≤ (l1 i).most ∧ (l1 i).most ≤ 9223372036854775807) := ⟨OG.out.lo, OG.out.hi⟩
        clear OG
        generalize (l1 i).most = mo at *
        go_upto_region 11 with fail
        go_cut [11] from 26 to 210 (fun v11 wc => (∃ th : Bool, v11 = .bool th ∧ (th = true ↔ ∃ q : Nat, mo = (q : Int) ∧ T[q]? = some true)) ∧ wc = wr)
        case first =>
          as_aux_lemma =>
            by_cases m1 : (1 : Int) ≤ mo
            · by_cases m2 : mo < (T.length : Int)
              · obtain ⟨q, rfl⟩ : ∃ q : Nat, mo = (q : Int) := ⟨mo.toNat, by omega⟩
                have hq : q < T.length := by omega
                have RB := G.out.2.1.tk
                obtain ⟨A, c, e, hA⟩ := RB.form
                injection e with e1 e2 e3
                subst e1 e3
                obtain ⟨g, rfl, hg, hg2⟩ := hA (by omega)
                have cb := RB.at_ q (List.getElem?_eq_getElem hq)
                have IF : Hid (T[q] = true ↔ ∃ z : Nat, (q : Int) = (z : Int) ∧ T[z]? = some true) := ⟨fun e => ⟨q, rfl, by rw [List.getElem?_eq_getElem hq, e]⟩, fun ⟨z, e, h⟩ => by
                  obtain rfl : q = z := by omega
                  rw [List.getElem?_eq_getElem hq] at h
                  injection h⟩
                generalize T[q] = tb at *
                have hq2 : (q : Int) < (T.length : Int) := m2
                clear RB
                go_wp2_with fail
                go_meet
                case rel => exact ⟨⟨tb, rfl, IF.out⟩, rfl⟩
              · have NO : Hid (false = true ↔ ∃ q : Nat, mo = (q : Int) ∧ T[q]? = some true) := ⟨fun e => (by cases e), fun ⟨q, e, h⟩ => by
                  have := (List.getElem?_eq_some_iff.1 h).1
                  omega⟩
                go_wp2_with fail
                go_meet
                case rel => exact ⟨⟨false, rfl, NO.out⟩, rfl⟩
            · have NO : Hid (false = true ↔ ∃ q : Nat, mo = (q : Int) ∧ T[q]? = some true) := ⟨fun e => (by cases e), fun ⟨q, e, h⟩ => by
                have h0 : q = 0 := by omega
                subst h0
                exact absurd h G.out.1.zero⟩
              go_wp2_with fail
              go_meet
              case rel => exact ⟨⟨false, rfl, NO.out⟩, rfl⟩
        case rest =>
          obtain ⟨⟨th, rfl, hth⟩, rfl⟩ := hcut
          have TH := Lib.hid hth
          clear hth
          by_cases q1 : kd % 4 = 1
          · as_aux_lemma =>
              have k0 : ((kd : Int) % 4 == 0) = false := by simp; omega
              have k1 : ((kd : Int) % 4 == 1) = true := by simp; omega
              cases th with
              | true =>
                obtain ⟨q, rfl, hq⟩ := TH.out.1 rfl
                obtain ⟨j, l, hqj, hj, hf, hd⟩ := G.out.1.yes hq
                have ql := (List.getElem?_eq_some_iff.1 hq).1
                obtain ⟨A, c, e, hA⟩ := G.out.2.1.tk.form
                injection e with e1 e2 e3
                subst e1 e3
                obtain ⟨g, rfl, hg, hg2⟩ := hA (by omega)
                have ej : ((j : Int) + 1) = (q : Int) := by omega
                have FR := Lib.hid (free_yes w.heap.size wc p n f G.out.2.1.mem j l hf)
                rw [ej] at FR
                have TF : Hid (Twin n (put f j none) (T.set q false) D) := by
                  have := G.out.1.free hq
                  rw [show q - 1 = j by omega] at this
                  exact this
                have HQ := Lib.hid hq
                have qi : (q : Int) < (T.length : Int) := by omega
                clear TH hqj hf hd ej
                go_wp2_with fail
                refine FR.out.mono ?_
                rintro e w' ⟨rfl, m', kp⟩
                have T3 := Lib.hid (G.out.2.1.call m' kp)
                have B3 : Hid (Below w.heap.size w w') := G.out.2.2.trans (kp.below G.out.2.2.size)
                have rc := T3.out.tk.at_ q HQ.out
                have rf := World.ownsRow.frozenAt T3.out.tk q
                have T4 := Lib.hid (T3.out.turnB (T3.out.tk.set_ q false).2 (T3.out.tk.set_ q false).1)
                have B4 : Hid (Below w.heap.size w (w'.setCell ⟨g, q, none⟩ (.bool false))) := B3.out.trans (((T3.out.tk.grew (T3.out.tk.set_ q false).2)).below B3.out.size)
                clear m' kp FR
                go_wp2_with fail
                go_roundw
                case rel => exact ⟨i + 1, _, _, _, _, put f j none, T.set q false, D, by omega, by omega, by go_num, by rw [List.length_set], rfl, TF.out, by rw [List.length_set]; exact T4.out, B4.out⟩
                case measure => show 300 - ((i : Int) + 1).toNat < 300 - (i : Int).toNat; omega
              | false =>
                have FR := Lib.hid (free_no w.heap.size wc p n f G.out.2.1.mem mo LO.out.1 LO.out.2 (fun j e => G.out.1.no (b := j + 1) (fun h => absurd (TH.out.2 ⟨j + 1, by omega, h⟩) (by simp)) j rfl))
                clear TH
                go_wp2_with fail
                refine FR.out.mono ?_
                rintro e w' ⟨rfl, rfl⟩
                clear FR
                go_wp2_with fail
                go_roundw
                case rel => exact ⟨i + 1, _, _, _, _, f, T, D, by omega, by omega, by go_num, rfl, rfl, G.out⟩
                case measure => show 300 - ((i : Int) + 1).toNat < 300 - (i : Int).toNat; omega
          · by_cases q0 : kd % 4 = 0
            · as_aux_lemma =>
                have k0 : ((kd : Int) % 4 == 0) = true := by simp; omega
                clear TH
                have TL : T.length ≤ 4097 := by have := G.out.1.few; omega
                go_wp2_with fail
                go_loopw [12] (fun v wr => ∃ w1 : Nat, v = .int .i64 w1 ∧ 1 ≤ w1 ∧ w1 ≤ T.length + 1 ∧ wr = wc ∧ Hid (∀ j, 1 ≤ j → j < w1 → T[j]? = some true)) (fun v _ => T.length - (intOf v).toNat)
                case atStart => exact ⟨1, rfl, by omega, by omega, rfl, fun j h1 h2 => by omega⟩
                case round =>
                  obtain ⟨w1, rfl, h1w, hw2, e, HLOW⟩ := hrel
                  subst e
                  go_upto_region 15 with fail
                  go_cut [72] from 63 to 74 (fun v72 wd => (∃ tt : Bool, v72 = .bool tt ∧ (tt = true ↔ T[w1]? = some true)) ∧ wd = wr)
                  case first =>
                    by_cases hlt1 : w1 < T.length
                    · have z1 : (w1 : Int) < (T.length : Int) := by omega
                      have RB := G.out.2.1.tk
                      obtain ⟨A, c, e, hA⟩ := RB.form
                      injection e with e1 e2 e3
                      subst e1 e3
                      obtain ⟨g, rfl, hg, hg2⟩ := hA (by omega)
                      have cb := RB.at_ w1 (List.getElem?_eq_getElem hlt1)
                      have IF : Hid (T[w1] = true ↔ T[w1]? = some true) := by show _ ↔ _; rw [List.getElem?_eq_getElem hlt1]; simp
                      generalize T[w1] = tb at *
                      clear RB
                      go_wp2_with fail
                      go_meet
                      case rel => exact ⟨⟨tb, rfl, IF.out⟩, rfl⟩
                    · have z1 : ¬ (w1 : Int) < (T.length : Int) := by omega
                      have IF : Hid (false = true ↔ T[w1]? = some true) := by show _ ↔ _; rw [List.getElem?_eq_none (by omega)]; simp
                      go_wp2_with fail
                      go_meet
                      case rel => exact ⟨⟨false, rfl, IF.out⟩, rfl⟩
                  case rest =>
                    obtain ⟨⟨tt, rfl, htt⟩, e⟩ := hcut
                    subst e
                    cases tt with
                    | true =>
                      have hT := htt.1 rfl
                      have hlt1 := (List.getElem?_eq_some_iff.1 hT).1
                      have HL2 : Hid (∀ j, 1 ≤ j → j < w1 + 1 → T[j]? = some true) := fun j h1 h2 => by
                        by_cases e : j = w1
                        · rw [e]; exact hT
                        · exact HLOW.out j h1 (by omega)
                      clear hT htt
                      go_wp2_with fail
                      go_roundw
                      case rel => exact ⟨w1 + 1, by go_num, by omega, by omega, trivial, HL2⟩
                      case measure => simp [intOf]; omega
                    | false =>
                      have WN := Lib.hid (G.out.1.want h1w HLOW.out (fun e => by have := htt.2 e; cases this))
                      have TK := Lib.hid (take_any w.heap.size _ p n f G.out.2.2.size G.out.2.1.mem)
                      clear htt HLOW
                      by_cases hwn : w1 ≤ n
                      · have LE := Lib.hid (WN.out.1 hwn)
                        go_wp2_with fail
                        refine TK.out.mono ?_
                        rintro e w3 (⟨q, hq, rfl, m3, kp3⟩ | ⟨hq, _, _⟩)
                        rotate_left
                        · exact absurd LE.out.2.1 (hq _ LE.out.1)
                        have eq : q = w1 - 1 := by
                          rcases Nat.lt_trichotomy q (w1 - 1) with h | h | h
                          · exact absurd hq.2.1 (LE.out.2.2 q h)
                          · exact h
                          · exact absurd LE.out.2.1 (hq.2.2 _ h)
                        have eq2 : ((q : Int) + 1) = (w1 : Int) := by omega
                        rw [eq] at m3
                        rw [eq2]
                        have T3 := Lib.hid (G.out.2.1.call m3 kp3)
                        have B3 : Hid (Below w.heap.size w w3) := G.out.2.2.trans (kp3.below G.out.2.2.size)
                        have US := Lib.hid (used_any w.heap.size w3 p n _ T3.out.mem)
                        have cn := cnt_le n (put f (w1 - 1) (some zeroKB))
                        have TT := Lib.hid (G.out.1.take h1w hwn)
                        generalize put f (w1 - 1) (some zeroKB) = f' at *
                        generalize cnt n f' = cu at *
                        have u1 : ¬ (n : Int) < (cu : Int) := by omega
                        have u1n : ¬ n < cu := by omega
                        have u1d : decide (n < cu) = false := decide_eq_false (by omega)
                        have u2 : ¬ (n : Int) < (w1 : Int) := by omega
                        have u3 : (w1 : Int) ≤ (n : Int) := by omega
                        have u4 : ((w1 : Int) != (w1 : Int)) = false := by simp
                        clear hq eq eq2 m3 kp3 TK cn
                        go_wp2_with fail
                        refine US.out.mono ?_
                        rintro e w4 ⟨rfl, hb4⟩
                        have T4 := Lib.hid (T3.out.under hb4)
                        have B4 : Hid (Below w.heap.size w w4) := B3.out.trans (hb4.mono B3.out.size)
                        clear hb4 US T3 B3
                        go_wp2_with fail
                        go_loopw [7, 8] (fun v7 v8 wr => ∃ (A7 A8 : Option Addr) (c7 c8 : Nat) (m : Nat) (T' : List Bool) (D' : List (List Nat)), v7 = .slice A7 T'.length c7 ∧ v8 = .slice A8 D'.length c8 ∧ T'.length ≤ 4200 ∧ Hid (T'.length = D'.length) ∧ Hid (T' = T ++ List.replicate m false ∧ D' = D ++ List.replicate m [] ∧ m ≤ w1 + 1 - T.length) ∧ Hid (Three w.heap.size wr p n f' (.slice A7 T'.length c7) (.slice A8 D'.length c8) T' D' ∧ Below w.heap.size w wr)) (fun v7 _ _ => w1 + 1 - sliceN v7)
                        case atStart => exact ⟨A7, A8, c7, c8, 0, T, D, rfl, rfl, by omega, G.out.1.len, ⟨by simp, by simp, by omega⟩, T4.out, B4.out⟩
                        case round =>
                          obtain ⟨A7', A8', c7', c8', m, T', D', rfl, rfl, l1', L2, HX, GG⟩ := hrel
                          clear T4 B4
                          by_cases hl3 : T'.length ≤ w1
                          · have z3 : (T'.length : Int) ≤ (w1 : Int) := by omega
                            have A1 : Hid (Below wr.heap.size wr (wr.alloc (.cells #[.bool false] 4))) := (Below.refl _ _).alloc (Nat.le_refl _) _
                            have TU := Lib.hid (GG.out.1.under A1.out)
                            have B1' : Hid (Below w.heap.size w (wr.alloc (.cells #[.bool false] 4))) := GG.out.2.trans (A1.out.mono GG.out.2.size)
                            go_wp2_with (at_builtin; refine wpList_append_b1 rfl _ _ rfl w.heap.size _ T' rfl TU.out.tk wr.heap.size 1 false rfl ?q1 (by omega) ?q2 ?_)
                            case q1 => exact (Held.new wr _ #[.bool false] rfl).cell 0
                            case q2 => exact B1'.out.size
                            intro v' w5 hr5 hg5 _
                            have T5 := Lib.hid (TU.out.turnB hg5 hr5)
                            have B5 : Hid (Below w.heap.size w w5) := B1'.out.trans ((TU.out.tk.grew hg5).below B1'.out.size)
                            obtain ⟨A5, c5, rfl, _⟩ := hr5.form
                            have A2 : Hid (Below w5.heap.size w5 (w5.alloc (.cells #[.string ⟨#[]⟩] 9))) := (Below.refl _ _).alloc (Nat.le_refl _) _
                            have TV := Lib.hid (T5.out.under A2.out)
                            have B2' : Hid (Below w.heap.size w (w5.alloc (.cells #[.string ⟨#[]⟩] 9))) := B5.out.trans (A2.out.mono B5.out.size)
                            obtain ⟨tn, htn⟩ : ∃ x, x = (T' ++ [false]).length := ⟨_, rfl⟩
                            rw [← htn] at TV
                            rw [← htn]
                            have HTN := Lib.hid htn
                            clear hr5 hg5 T5 TU A1 htn
                            go_wp2_with (at_builtin; refine wpList_append_t1 rfl _ _ rfl w.heap.size _ D' rfl TV.out.dt w5.heap.size 1 [] rfl ?q3 (by have := L2.out; omega) ?q4 ?_)
                            case q3 => exact (Held.new w5 _ #[.string ⟨#[]⟩] rfl).cell 0
                            case q4 => exact B2'.out.size
                            intro v'' w6 hr6 hg6 _
                            have T6 := Lib.hid (TV.out.turnT hg6 hr6)
                            have B6 : Hid (Below w.heap.size w w6) := B2'.out.trans ((TV.out.dt.grew hg6).below B2'.out.size)
                            obtain ⟨A6, c6, rfl, _⟩ := hr6.form
                            obtain ⟨dn, hdn⟩ : ∃ x, x = (D' ++ [[]]).length := ⟨_, rfl⟩
                            rw [← hdn] at T6
                            rw [← hdn]
                            have HDN := Lib.hid hdn
                            clear hr6 hg6 TV A2 hdn
                            have l3 : tn = T'.length + 1 := by rw [HTN.out]; simp
                            go_wp2_with fail
                            go_roundw
                            case rel =>
                              refine ⟨A5, A6, c5, c6, m + 1, T' ++ [false], D' ++ [[]], by rw [HTN.out], by rw [HDN.out], by simp; omega, by show _ = _; have := L2.out; simp; omega, ⟨?_, ?_, ?_⟩, ?_, B6.out⟩
                              · rw [HX.out.1, List.append_assoc, List.replicate_succ']
                              · rw [HX.out.2.1, List.append_assoc, List.replicate_succ']
                              · have := HX.out.1
                                have h2 : T'.length = T.length + m := by rw [this]; simp
                                omega
                              · have := T6.out
                                rw [HTN.out, HDN.out] at this
                                exact this
                            case measure => show w1 + 1 - tn < w1 + 1 - T'.length; omega
                          · have z3 : ¬ (T'.length : Int) ≤ (w1 : Int) := by omega
                            have h2 : T'.length = T.length + m := by rw [HX.out.1]; simp
                            have em : m = w1 + 1 - T.length := by have := HX.out.2.2; omega
                            have ET : T' = ext false w1 T := by rw [HX.out.1, em]; rfl
                            have ED : D' = ext [] w1 D := by rw [HX.out.2.1, em]; unfold ext; rw [G.out.1.len]
                            rw [← ET, ← ED] at TT
                            clear ET ED HX h2 em
                            have q7 : w1 < T'.length := by omega
                            have q8 : w1 < D'.length := by have := L2.out; omega
                            have z7 : (w1 : Int) < (T'.length : Int) := by omega
                            have z8 : (w1 : Int) < (D'.length : Int) := by omega
                            obtain ⟨A, c, e, hA⟩ := GG.out.1.tk.form
                            injection e with e1 e2 e3
                            subst e1 e3
                            obtain ⟨g7, rfl, _, _⟩ := hA (by omega)
                            obtain ⟨A, c, e, hA⟩ := GG.out.1.dt.form
                            injection e with e1 e2 e3
                            subst e1 e3
                            obtain ⟨g8, rfl, _, _⟩ := hA (by omega)
                            have rc := GG.out.1.tk.at_ w1 (List.getElem?_eq_getElem q7)
                            generalize T'[w1] = tb at *
                            have rf := World.ownsRow.frozenAt GG.out.1.tk w1
                            obtain ⟨w7, hw7⟩ : ∃ x, x = wr.setCell ⟨g7, w1, none⟩ (.bool true) := ⟨_, rfl⟩
                            have HW7 := Lib.hid hw7
                            have T7 : Hid (Three w.heap.size w7 p n f' (.slice (some ⟨g7, 0, none⟩) T'.length c7') (.slice (some ⟨g8, 0, none⟩) D'.length c8') (T'.set w1 true) D') := by
                              have := GG.out.1.turnB (GG.out.1.tk.set_ w1 true).2 (GG.out.1.tk.set_ w1 true).1
                              rw [hw7]
                              exact this
                            have B7 : Hid (Below w.heap.size w w7) := by
                              show Below _ _ _
                              rw [hw7]
                              exact GG.out.2.trans (((GG.out.1.tk.grew (GG.out.1.tk.set_ w1 true).2)).below GG.out.2.size)
                            go_upto_region 25 with fail
                            rw [← HW7.out]
                            have MK : (Instr.makeSlice 34 (.int .i64 512) (.int .i64 512)).run Tryd.prog w7 = .ok (.slice (some ⟨w7.heap.size, 0, none⟩) 512 512) (w7.alloc (.cells (madeCells #[.int .u8 0] 512) 5)) := run_make_bts byteT 512 (by omega) .i64 .i64 w7
                            obtain ⟨w8, hw8⟩ : ∃ x, x = w7.alloc (.cells (madeCells #[.int .u8 0] 512) 5) := ⟨_, rfl⟩
                            have A8b : Below w7.heap.size w7 w8 := by rw [hw8]; exact (Below.refl _ _).alloc (Nat.le_refl _) _
                            have OZ : OwnB w8 w7.heap.size 5 (.slice (some ⟨w7.heap.size, 0, none⟩) 512 512) (List.replicate 512 0) := by rw [hw8]; exact own_zeros w7 512 (by decide) _ rfl _ (Nat.le_refl _)
                            have TS : (convert 34 9 (.slice (some ⟨w7.heap.size, 0, none⟩) 512 512)).run Tryd.prog w8 = .ok (strV (List.replicate 512 0)) w8 := by
                              obtain ⟨A, cp, e, hb⟩ := OZ.any
                              injection e with e1 e2 e3
                              rw [e1]
                              have hb2 : Bts w8 A 512 (List.replicate 512 0) := by have := hb; rw [List.length_replicate] at this; exact this
                              exact hb2.toStr byteT Tryd.underlying9 512
                            rw [← hw8] at MK
                            have T8 := Lib.hid (T7.out.under A8b)
                            have B8 := Lib.hid (B7.out.trans (A8b.mono B7.out.size))
                            have rc8 := T8.out.dt.at_ w1 (List.getElem?_eq_getElem q8)
                            generalize D'[w1] = db at *
                            generalize hzz : (List.replicate 512 0 : List Nat) = zz at *
                            have rf8 := World.ownsRow.frozenAt T8.out.dt w1
                            have T9 := Lib.hid (T8.out.turnT (T8.out.dt.set_ w1 zz).2 (T8.out.dt.set_ w1 zz).1)
                            have B9 : Hid (Below w.heap.size w (w8.setCell ⟨g8, w1, none⟩ (strV zz))) := B8.out.trans (((T8.out.dt.grew (T8.out.dt.set_ w1 zz).2)).below B8.out.size)
                            unfold strV at rc8 TS T9 B9
                            generalize strB zz = sz at *
                            clear hw8 OZ A8b rc rf HW7 hw7 hA hzz
                            go_wp2_with fail
                            go_roundw
                            case rel => exact ⟨i + 1, _, _, _, _, f', T'.set w1 true, D'.set w1 zz, by omega, by omega, by go_num, by rw [List.length_set], by rw [List.length_set], TT.out, by rw [List.length_set, List.length_set]; exact T9.out, B9.out⟩
                            case measure => show 300 - ((i : Int) + 1).toNat < 300 - (i : Int).toNat; omega
                      · have FULL := Lib.hid (WN.out.2 (by omega))
                        go_wp2_with fail
                        refine TK.out.mono ?_
                        rintro e w3 (⟨q, hq, _⟩ | ⟨hq, rfl, rfl⟩)
                        · exact absurd hq.2.1 (FULL.out q hq.1)
                        have US := Lib.hid (used_any w.heap.size _ p n _ G.out.2.1.mem)
                        have cn := cnt_le n f
                        generalize cnt n f = cu at *
                        have u1 : ¬ (n : Int) < (cu : Int) := by omega
                        have u1n : ¬ n < cu := by omega
                        have u1d : decide (n < cu) = false := decide_eq_false (by omega)
                        have u2 : (n : Int) < (w1 : Int) := by omega
                        have u3 : ¬ (w1 : Int) ≤ (n : Int) := by omega
                        clear hq TK cn
                        go_wp2_with fail
                        refine US.out.mono ?_
                        rintro e w4 ⟨rfl, hb4⟩
                        have T4 := Lib.hid (G.out.2.1.under hb4)
                        have B4 : Hid (Below w.heap.size w w4) := G.out.2.2.trans (hb4.mono G.out.2.2.size)
                        clear hb4 US
                        go_wp2_with fail
                        go_loopw [7, 8] (fun v7 v8 wr => v7 = .slice A7 T.length c7 ∧ v8 = .slice A8 D.length c8 ∧ wr = w4) (fun _ _ _ => 0)
                        case atStart => exact ⟨rfl, rfl, rfl⟩
                        case round =>
                          obtain ⟨rfl, rfl, e⟩ := hrel
                          subst e
                          go_wp2_with fail
                          go_roundw
                          case rel => exact ⟨i + 1, _, _, _, _, f, T, D, by omega, by omega, by go_num, rfl, rfl, G.out.1, T4.out, B4.out⟩
                          case measure => show 300 - ((i : Int) + 1).toNat < 300 - (i : Int).toNat; omega
            · by_cases q2 : kd % 4 = 2
              · as_aux_lemma =>
                  have k0 : ((kd : Int) % 4 == 0) = false := by simp; omega
                  have k1 : ((kd : Int) % 4 == 1) = false := by simp; omega
                  have k2 : ((kd : Int) % 4 == 2) = true := by simp; omega
                  have ksz : (strB ky).size = ky.length := strB_size ky
                  obtain ⟨cv, w4, CV, hb4, hb4'⟩ := to_bytes wc ky KG.out
                  have KB4 := Lib.hid hb4
                  have B4' := Lib.hid hb4'
                  have T4 := Lib.hid (G.out.2.1.under hb4')
                  have B4 : Hid (Below w.heap.size w w4) := G.out.2.2.trans (hb4'.mono G.out.2.2.size)
                  have y1 : w4.cell? ⟨b, off + i * 4 + 1, none⟩ = some (.string (strB ky)) := (hb4'.cell (p := ⟨b, off + i * 4 + 1, none⟩) hb).trans x1
                  clear hb4 hb4'
                  cases th with
                  | true =>
                    obtain ⟨q, rfl, hq⟩ := TH.out.1 rfl
                    obtain ⟨j, l, hqj, hj, hf, hd⟩ := G.out.1.yes hq
                    have ej : ((j : Int) + 1) = (q : Int) := by omega
                    have HQ := Lib.hid hq
                    have qlt := (List.getElem?_eq_some_iff.1 hq).1
                    by_cases h512 : ky.length ≤ 512
                    · have z512 : (ky.length : Int) ≤ 512 := by omega
                      have WR := Lib.hid (write_yes w.heap.size w4 p n f T4.out.mem j l hf _ _ cv ky KB4.out h512)
                      rw [ej] at WR
                      have TW := Lib.hid (G.out.1.write hq (pad ky))
                      have ejq : q - 1 = j := by omega
                      rw [ejq] at TW
                      generalize put f j (some (pad ky, false)) = f' at *
                      clear TH hq hqj hf hd ej ejq
                      go_wp2_with fail
                      refine WR.out.mono ?_
                      rintro e w5 ⟨rfl, m5, kp5⟩
                      have T5 := Lib.hid (T4.out.call m5 kp5)
                      have B5 : Hid (Below w.heap.size w w5) := B4.out.trans (kp5.below B4.out.size)
                      have c1 : w5.cell? ⟨b, off + i * 4 + 1, none⟩ = some (.string (strB ky)) := ((kp5.below B4.out.size).cell (p := ⟨b, off + i * 4 + 1, none⟩) BW0.out).trans y1
                      clear m5 kp5 WR CV x0 x1 x2 x3 y1
                      obtain ⟨A, c, e, hA⟩ := T5.out.dt.form
                      injection e with e1 e2 e3
                      subst e1 e3
                      have qltD : q < D.length := by have := G.out.1.len; omega
                      obtain ⟨g8, rfl, hg8, _⟩ := hA (by omega)
                      have qz : (q : Int) < (D.length : Int) := by omega
                      have BG : Hid (b ≠ g8) := by have := BW0.out; show b ≠ g8; omega
                      obtain ⟨W6, hW6⟩ : ∃ x, x = w5.drew.alloc (.cells (madeCells #[.int .u8 0] (512 - ky.length)) 5) := ⟨_, rfl⟩
                      have MK := run_make_bts (P := Tryd.prog) byteT (512 - ky.length) (by omega) .i64 .i64 w5.drew
                      have TS := zeros_str w5.drew (512 - ky.length) (by omega)
                      have hds : w5.drew.heap.size = w5.heap.size := rfl
                      rw [hds] at MK TS
                      rw [← hW6] at MK TS
                      have HW6 := Lib.hid hW6
                      have A6 : Below w5.heap.size w5 W6 := by
                        rw [hW6]
                        have d : Below w5.heap.size w5 w5.drew := (Below.refl _ _).drew
                        exact d.alloc (Nat.le_refl _) _
                      have T6 := Lib.hid (T5.out.under A6)
                      have B6 : Hid (Below w.heap.size w W6) := B5.out.trans (A6.mono B5.out.size)
                      have c1' : W6.cell? ⟨b, off + i * 4 + 1, none⟩ = some (.string (strB ky)) := (A6.cell (p := ⟨b, off + i * 4 + 1, none⟩) (block_lt c1)).trans c1
                      have c8 := T6.out.dt.at_ q (List.getElem?_eq_getElem qltD)
                      unfold strV at c8
                      generalize D[q] = dq at *
                      have f8 := World.ownsRow.frozenAt T6.out.dt q
                      have EV : Value.string (strB ky ++ strB (List.replicate (512 - ky.length) 0)) = strV (pad ky) := by unfold strV pad; rw [strB_app]
                      have T7 := Lib.hid (T6.out.turnT (T6.out.dt.set_ q (pad ky)).2 (T6.out.dt.set_ q (pad ky)).1)
                      have B7 : Hid (Below w.heap.size w (W6.setCell ⟨g8, q, none⟩ (strV (pad ky)))) := B6.out.trans (((T6.out.dt.grew (T6.out.dt.set_ q (pad ky)).2)).below B6.out.size)
                      rw [← EV] at T7 B7
                      have zsz : (strB (List.replicate (512 - ky.length) 0)).size = 512 - ky.length := by rw [strB_size, List.length_replicate]
                      generalize strB (List.replicate (512 - ky.length) 0) = zs at *
                      generalize hkn : ky.length = kn at *
                      obtain ⟨zn, hzn⟩ : ∃ x, x = 512 - kn := ⟨_, rfl⟩
                      rw [← hzn] at MK TS zsz
                      have e5 : IntKind.i64.wrap (512 - (kn : Int)) = (zn : Int) := by rw [IntKind.wrap_i64]; omega
                      have LP7 : Hid ((D.set q (pad ky)).length = D.length) := List.length_set ..
                      have n63 : ¬ 9223372036854775807 < kn + zn := by omega
                      have c1'' : (W6.setCell ⟨g8, q, none⟩ (.string (strB ky ++ zs))).cell? ⟨b, off + i * 4 + 1, none⟩ = some (.string (strB ky)) := (World.cell?_of_block (a := ⟨b, off + i * 4 + 1, none⟩) (Below.heap_setCell W6 ⟨g8, q, none⟩ _ b BG.out)).trans c1'
                      clear hA hW6 A6 hzn EV hds
                      go_upto_region 37 with fail
                      refine wp_region_noPanic ?_
                      refine wp_region_held_drew (S := fun w' => w'.cell? ⟨b, off + i * 4 + 1, none⟩ = some (.string (strB ky))) (by kernel_rfl) c1 (fun hHeld => ?_)
                      refine take_ (i := 0) (v := ?_) 169 rfl rfl (by kernel_rfl) (by kernel_rfl) (by kernel_rfl) (fun _ _ _ h => h) (Or.inl ⟨by rfl, ?_⟩) (by assumption) ?_
                      rotate_left
                      · (intro wS hSw; (try dsimp only at hSw); go_simp; try with_reducible rfl)
                      simp only [Act.put, List.setIfInBounds_toArray, List.set_cons_zero, List.set_cons_succ]
                      refine take_ (i := 1) (v := ?_) 170 rfl rfl (by kernel_rfl) (by kernel_rfl) (by kernel_rfl) (fun _ _ _ h => h) (Or.inl ⟨by rfl, ?_⟩) (by assumption) ?_
                      rotate_left
                      · (intro wS hSw; (try dsimp only at hSw); go_simp; try with_reducible rfl)
                      simp only [Act.put, List.setIfInBounds_toArray, List.set_cons_zero, List.set_cons_succ]
                      refine take_ (i := 2) (v := ?_) 171 rfl rfl (by kernel_rfl) (by kernel_rfl) (by kernel_rfl) (fun _ _ _ h => h) (Or.inl ⟨by rfl, ?_⟩) (by assumption) ?_
                      rotate_left
                      · (intro wS hSw; (try dsimp only at hSw); go_simp; try with_reducible rfl)
                      simp only [Act.put, List.setIfInBounds_toArray, List.set_cons_zero, List.set_cons_succ]
                      refine take_ (i := 3) (v := ?_) 172 rfl rfl (by kernel_rfl) (by kernel_rfl) (by kernel_rfl) (fun _ _ _ h => h) (Or.inl ⟨by rfl, ?_⟩) (by assumption) ?_
                      rotate_left
                      · (intro wS hSw; (try dsimp only at hSw); go_simp; try with_reducible rfl)
                      simp only [Act.put, List.setIfInBounds_toArray, List.set_cons_zero, List.set_cons_succ]
                      refine take_ (i := 4) (v := ?_) 173 rfl rfl (by kernel_rfl) (by kernel_rfl) (by kernel_rfl) (fun _ _ _ h => h) (Or.inl ⟨by rfl, ?_⟩) (by assumption) ?_
                      rotate_left
                      · (intro wS hSw; (try dsimp only at hSw); go_simp; try with_reducible rfl)
                      simp only [Act.put, List.setIfInBounds_toArray, List.set_cons_zero, List.set_cons_succ]
                      refine take_ (i := 5) (v := ?_) 174 rfl rfl (by kernel_rfl) (by kernel_rfl) (by kernel_rfl) (fun _ _ _ h => h) (Or.inl ⟨by rfl, ?_⟩) (by assumption) ?_
                      rotate_left
                      · (intro wS hSw; (try dsimp only at hSw); go_simp; try with_reducible rfl)
                      simp only [Act.put, List.setIfInBounds_toArray, List.set_cons_zero, List.set_cons_succ]
                      refine take_ (i := 6) (v := ?_) 175 rfl rfl (by kernel_rfl) (by kernel_rfl) (by kernel_rfl) (fun _ _ _ h => h) (Or.inl ⟨by rfl, ?_⟩) (by assumption) ?_
                      rotate_left
                      · (intro wS hSw; (try dsimp only at hSw); go_simp; try with_reducible rfl)
                      simp only [Act.put, List.setIfInBounds_toArray, List.set_cons_zero, List.set_cons_succ]
                      refine take_ (i := 7) (v := ?_) 176 rfl rfl (by kernel_rfl) (by kernel_rfl) (by kernel_rfl) (fun _ _ _ h => h) (Or.inl ⟨by rfl, ?_⟩) (by assumption) ?_
                      rotate_left
                      · (intro wS hSw; (try dsimp only at hSw); go_simp; try with_reducible rfl)
                      simp only [Act.put, List.setIfInBounds_toArray, List.set_cons_zero, List.set_cons_succ]
                      refine take_ (i := 8) (v := ?_) 177 rfl rfl (by kernel_rfl) (by kernel_rfl) (by kernel_rfl) (fun _ _ _ h => h) (Or.inl ⟨by rfl, ?_⟩) (by assumption) ?_
                      rotate_left
                      · (intro wS hSw; (try dsimp only at hSw); go_simp; try with_reducible rfl)
                      simp only [Act.put, List.setIfInBounds_toArray, List.set_cons_zero, List.set_cons_succ]
                      refine take_ (i := 9) (v := ?_) 178 rfl rfl (by kernel_rfl) (by kernel_rfl) (by kernel_rfl) (fun _ _ _ h => h) (Or.inl ⟨by rfl, ?_⟩) (by assumption) ?_
                      rotate_left
                      · (intro wS hSw; (try dsimp only at hSw); go_simp; try with_reducible rfl)
                      simp only [Act.put, List.setIfInBounds_toArray, List.set_cons_zero, List.set_cons_succ]
                      refine take_ (i := 10) (v := ?_) 179 rfl rfl (by kernel_rfl) (by kernel_rfl) (by kernel_rfl) (fun _ _ _ h => h) (Or.inl ⟨by rfl, ?_⟩) (by assumption) ?_
                      rotate_left
                      · (intro wS hSw; (try dsimp only at hSw); go_simp; try with_reducible rfl)
                      simp only [Act.put, List.setIfInBounds_toArray, List.set_cons_zero, List.set_cons_succ]
                      refine take_ (i := 11) (v := ?_) 180 rfl rfl (by kernel_rfl) (by kernel_rfl) (by kernel_rfl) (fun _ _ _ h => h) (Or.inl ⟨by rfl, ?_⟩) (by assumption) ?_
                      rotate_left
                      · (intro wS hSw; (try dsimp only at hSw); go_simp; try with_reducible rfl)
                      simp only [Act.put, List.setIfInBounds_toArray, List.set_cons_zero, List.set_cons_succ]
                      refine take_ (i := 12) (v := ?_) 181 rfl rfl (by kernel_rfl) (by kernel_rfl) (by kernel_rfl) (fun _ _ _ h => h) (Or.inl ⟨by rfl, ?_⟩) (by assumption) ?_
                      rotate_left
                      · (intro wS hSw; (try dsimp only at hSw); go_simp; try with_reducible rfl)
                      simp only [Act.put, List.setIfInBounds_toArray, List.set_cons_zero, List.set_cons_succ]
                      refine take_ (i := 13) (v := ?_) 182 rfl rfl (by kernel_rfl) (by kernel_rfl) (by kernel_rfl) (fun _ _ _ h => h) (Or.inl ⟨by rfl, ?_⟩) (by assumption) ?_
                      rotate_left
                      · (intro wS hSw; (try dsimp only at hSw); go_simp; try with_reducible rfl)
                      simp only [Act.put, List.setIfInBounds_toArray, List.set_cons_zero, List.set_cons_succ]
                      refine one_ (i := 14) _ (by kernel_rfl) rfl (fun K hK => ?_)
                      go_simp
                      refine hK.out _ _ c1' (fun hHeld => ?_)
                      clear hK K
                      refine one_ (i := 15) _ (by kernel_rfl) rfl (fun K hK => ?_)
                      go_simp
                      refine hK.out _ _ c1' (fun hHeld => ?_)
                      clear hK K
                      refine take_ (i := 16) (v := ?_) 185 rfl rfl (by kernel_rfl) (by kernel_rfl) (by kernel_rfl) (fun _ _ _ h => h) (Or.inl ⟨by rfl, ?_⟩) (by assumption) ?_
                      rotate_left
                      · (intro wS hSw; (try dsimp only at hSw); go_simp; try with_reducible rfl)
                      simp only [Act.put, List.setIfInBounds_toArray]
                      refine take_ (i := 17) (v := ?_) 186 rfl rfl (by kernel_rfl) (by kernel_rfl) (by kernel_rfl) (fun _ _ _ h => h) (Or.inl ⟨by rfl, ?_⟩) (by assumption) ?_
                      rotate_left
                      · (intro wS hSw; (try dsimp only at hSw); go_simp; try with_reducible rfl)
                      simp only [Act.put, List.setIfInBounds_toArray]
                      refine one_ (i := 18) _ (by kernel_rfl) rfl (fun K hK => ?_)
                      go_simp
                      refine hK.out _ _ c1'' (fun hHeld => ?_)
                      clear hK K
                      refine wpAnyH_done (by kernel_rfl) ?_ _
                      refine NoPanic.normal ?_
                      go_wp2_with fail
                      go_roundw
                      case rel => exact ⟨i + 1, _, _, _, _, f', T, D.set q (pad ky), by omega, by omega, by go_num, rfl, by rw [List.length_set], TW.out, by rw [List.length_set]; exact T7.out, B7.out⟩
                      case measure => show 300 - ((i : Int) + 1).toNat < 300 - (i : Int).toNat; omega
                    · have z512 : ¬ (ky.length : Int) ≤ 512 := by omega
                      have WR := Lib.hid (write_big w.heap.size w4 p n f T4.out.mem j _ hf (some ⟨wc.heap.size, 0, none⟩) ky.length cv (by omega))
                      rw [ej] at WR
                      clear TH hq hqj hf hd ej
                      go_wp2_with fail
                      refine WR.out.mono ?_
                      rintro e w5 ⟨rfl, rfl⟩
                      clear WR CV
                      go_wp2_with fail
                      go_roundw
                      case rel => exact ⟨i + 1, _, _, _, _, f, T, D, by omega, by omega, by go_num, rfl, rfl, G.out.1, T4.out, B4.out⟩
                      case measure => show 300 - ((i : Int) + 1).toNat < 300 - (i : Int).toNat; omega
                  | false =>
                    have WR := Lib.hid (write_no w.heap.size w4 p n f T4.out.mem mo LO.out.1 LO.out.2 (fun j e => G.out.1.no (b := j + 1) (fun h => absurd (TH.out.2 ⟨j + 1, by omega, h⟩) (by simp)) j rfl) (some ⟨wc.heap.size, 0, none⟩) ky.length cv)
                    clear TH
                    go_wp2_with fail
                    refine WR.out.mono ?_
                    rintro e w5 ⟨rfl, rfl⟩
                    clear WR CV
                    go_wp2_with fail
                    go_roundw
                    case rel => exact ⟨i + 1, _, _, _, _, f, T, D, by omega, by omega, by go_num, rfl, rfl, G.out.1, T4.out, B4.out⟩
                    case measure => show 300 - ((i : Int) + 1).toNat < 300 - (i : Int).toNat; omega
              · as_aux_lemma =>
                  have q3 : kd % 4 = 3 := by omega
                  have k0 : ((kd : Int) % 4 == 0) = false := by simp; omega
                  have k1 : ((kd : Int) % 4 == 1) = false := by simp; omega
                  have k2 : ((kd : Int) % 4 == 2) = false := by simp; omega
                  have k3 : ((kd : Int) % 4 == 3) = true := by simp; omega
                  cases th with
                  | true =>
                    obtain ⟨q, rfl, hq⟩ := TH.out.1 rfl
                    obtain ⟨j, l, hqj, hj, hf, hd⟩ := G.out.1.yes hq
                    have ej : ((j : Int) + 1) = (q : Int) := by omega
                    have qlt : q < D.length := (List.getElem?_eq_some_iff.1 hd).1
                    have qz : (q : Int) < (D.length : Int) := by omega
                    have RD := Lib.hid (read_yes w.heap.size wc p n f G.out.2.1.mem j _ hf)
                    rw [ej] at RD
                    have HD := Lib.hid hd
                    clear TH hq hqj hf hd ej
                    go_wp2_with fail
                    refine RD.out.mono ?_
                    rintro e w5 ⟨v5, rfl, ho5, hb5⟩
                    have T5 := Lib.hid (G.out.2.1.under hb5)
                    have B5 : Hid (Below w.heap.size w w5) := G.out.2.2.trans (hb5.mono G.out.2.2.size)
                    obtain ⟨A, c, e, hA⟩ := T5.out.dt.form
                    injection e with e1 e2 e3
                    subst e1 e3
                    obtain ⟨g8, rfl, _, _⟩ := hA (by omega)
                    have c8 : ∀ k, (w5.drewN k).cell? ⟨g8, q, none⟩ = some (.string (strB l)) := fun _ => T5.out.dt.at_ q HD.out
                    obtain ⟨A5, c5, rfl, hB5⟩ := ho5.any
                    obtain ⟨ll, hll⟩ : ∃ x, x = l.length := ⟨_, rfl⟩
                    have TS : ∀ k, (convert 34 9 (.slice A5 ll c5)).run Tryd.prog (w5.drewN k) = .ok (.string (strB l)) (w5.drewN k) := fun k => by rw [hll]; exact (hB5.drewN k).toStr byteT Tryd.underlying9 c5
                    have DR : Hid (∀ k, Below w5.heap.size w5 (w5.drewN k)) := fun k => ⟨rfl, rfl, rfl, Nat.le_refl _, fun _ _ => rfl⟩
                    rw [← hll]
                    clear hA hb5 ho5 hB5 RD x0 x1 x2 x3 hll HD
                    generalize strB l = sl at *
                    go_upto_region 40 with fail
                    go_quiet (fail)
                    go_wp2_with fail
                    go_roundw
                    case rel => exact ⟨i + 1, _, _, _, _, f, T, D, by omega, by omega, by go_num, rfl, rfl, G.out.1, T5.out.under (DR.out _), B5.out.trans ((DR.out _).mono B5.out.size)⟩
                    case measure => show 300 - ((i : Int) + 1).toNat < 300 - (i : Int).toNat; omega
                  | false =>
                    have RD := Lib.hid (read_no w.heap.size wc p n f G.out.2.1.mem mo LO.out.1 LO.out.2 (fun j e => G.out.1.no (b := j + 1) (fun h => absurd (TH.out.2 ⟨j + 1, by omega, h⟩) (by simp)) j rfl))
                    clear TH
                    go_wp2_with fail
                    refine RD.out.mono ?_
                    rintro e w5 ⟨rfl, e5⟩
                    subst e5
                    have DR : Hid (∀ k, Below wc.heap.size wc (wc.drewN k)) := fun k => ⟨rfl, rfl, rfl, Nat.le_refl _, fun _ _ => rfl⟩
                    clear RD x0 x1 x2 x3
                    go_upto_region 40 with fail
                    go_quiet (fail)
                    go_wp2_with fail
                    go_roundw
                    case rel => exact ⟨i + 1, _, _, _, _, f, T, D, by omega, by omega, by go_num, rfl, rfl, G.out.1, G.out.2.1.under (DR.out _), G.out.2.2.trans ((DR.out _).mono G.out.2.2.size)⟩
                    case measure => show 300 - ((i : Int) + 1).toNat < 300 - (i : Int).toNat; omega
      · have i3 : ¬ (i : Int) < 300 := by omega
        go_wp2_with fail
        go_ret
        exact ⟨rfl, G.out.2.2⟩
    · have im : ¬ (i : Int) < (n1 : Int) := by omega
      go_wp2_with fail
      go_ret
      exact ⟨rfl, G.out.2.2⟩
set_option maxRecDepth 100000 in
theorem opens {H : Type} {enc : TypeId × Value → H} {W : World} {base : Nat} {args : Array Value} {ds : List (DataW H)} {p : List MemPlace}
    (hval : ∀ (j : Nat) t v, Tryd.f3.params[j]? = some t → args[j]? = some v → Value.okWide Tryd.prog W .any base t v)
    (hA : DataW.TrodAll enc Tryd.prog W 0 (fun _ => true) true Tryd.f3.params.toList args.toList ds p) (hlt : ∀ x ∈ p, x.block < W.heap.size) (hk : Rows.uptoBulkAll ds ≤ 1048576) (hE : Env W) :
    Calls Tryd.prog 3 args W fun e W' => e = .returned (.bool true) ∧ Below W.heap.size W W' := by
  rw [Tryd.params3] at hA hval
  obtain ⟨v0, vs0, d0, ds0, p0, q0, hargs, rfl, rfl, h0, r0⟩ := trodAll_cons hA
  obtain ⟨v1, vs1, d1, ds1, p1, q1, rfl, rfl, rfl, h1, r1⟩ := trodAll_cons r0
  obtain ⟨rfl, rfl, rfl⟩ := trodAll_nil r1
  obtain rfl : args = #[v0, v1] := Array.toList_inj.1 hargs
  have _hE := hE
  obtain ⟨k, rfl, rfl, rfl, wk⟩ := open_int Tryd.underlying3 (hval 0 3 v0 rfl rfl) h0
  have _wk := wk
  obtain ⟨A, n, c, l, rfl, hl, hn⟩ := open_ops06 (hval 1 22 v1 rfl rfl) h1
  exact walk W k A n c l hl hn
theorem witness_row (os : Os) {H : Type} (enc : TypeId × Value → H) :
    (Rows.OpenSpec.upto Rows.btreeMemSpec).preRow enc Tryd.prog Tryd.f3 Rows.btreeMemUptoRow.domain false Rows.btreeMemUptoRow.laid ((startW os).forCall (fun _ _ => 0) ⟨#[], #[.int .i64 0, .slice none 0 0], []⟩).memory #[.int .i64 0, .slice none 0 0] := by
  have hw : (DataW.whole enc Tryd.prog ((startW os).forCall (fun _ _ => 0) ⟨#[], #[.int .i64 0, .slice none 0 0], []⟩).memory Tryd.f3.params.toList Rows.btreeMemSpec.vars false (#[.int .i64 0, .slice none 0 0] : Array Value).toList 8).map (fun x => (x.1, x.2.1)) =
      some ([.lit (.int .i64 0), .nil], []) := by kernel_rfl
  obtain ⟨⟨x1, x2, x3⟩, hx, hx1⟩ := Option.map_eq_some_iff.1 hw
  simp only [Prod.mk.injEq] at hx1
  obtain ⟨rfl, rfl⟩ := hx1
  exact OpenSpec.preRow_of_cond 8 hx (by kernel_rfl) (fun k hk => by cases hk; kernel_rfl) (by kernel_rfl) (door_met os _)
set_option maxRecDepth 100000 in
theorem lifted (os : Os) (started : os.Started) (H : Type) (enc : TypeId × Value → H) (F : Stop.Interp) :
    ReturnsInHanded {} Tryd.checked os 3 .any ((Rows.OpenSpec.upto Rows.btreeMemSpec).preRow enc Tryd.prog Tryd.f3 Rows.btreeMemUptoRow.domain false Rows.btreeMemUptoRow.laid) (((Rows.OpenSpec.upto Rows.btreeMemSpec).at F).post enc Tryd.prog Tryd.f3 false true false false) := by
  refine returnsInHanded_of_row (C := Tryd.checked) (s := Rows.OpenSpec.upto Rows.btreeMemSpec) own started (by kernel_rfl) Tryd.func3
    (witness_row_atRef (enc := enc) (C := Tryd.checked) false (startW os) #[.int .i64 0, .slice none 0 0] rfl (by kernel_rfl) (by kernel_rfl) (by kernel_rfl) (witness_row os enc)) ?_
  intro W base args ds gs before hval hW _ hcond _ hL _ _
  have hk := hcond _ rfl
  refine law_calls (s := Rows.btreeMemSpec) laidOut Tryd.underlying4 rfl (by rw [Tryd.params3]; exact of_decide_eq_true (by kernel_rfl)) rfl (fun ds h => by match ds, h with | [_, _], _ => rfl) hW ?_
  obtain ⟨rfl, p, hA, hlt⟩ := law_args rfl hW
  have hb : Rows.uptoBulkAll (ds ++ []) ≤ 1048576 := of_decide_eq_true hk
  rw [List.append_nil] at hb
  exact opens hval hA hlt hb (env_of hL)

theorem saidUpto : Rows.BtreeMemUptoSaid :=
  OpenClaim.holds_of_cond 3 Tryd.f3 rfl rfl rfl rfl rfl rfl rfl ⟨rfl, rfl, rfl, rfl, rfl⟩ rfl rfl rfl rfl rfl (by kernel_rfl) Tryd.func3 (by kernel_rfl)
    (of_decide_eq_true (by kernel_rfl)) (by unfold Func.isWrapper; first | (rw [if_pos (by decide +kernel)]; kernel_rfl) | (rw [if_neg (by decide +kernel)]; exact ⟨rfl, rfl⟩))
    (fun os started H enc _ F => by rw [OpenClaim.pre_eq_preRow]; exact lifted os started H enc F)
theorem plain (f : FuncId) (fn : Func) (hf : Tryd.pinned.checked.prog.funcNamed "docket/docketlaw06.BtreeMem" = some f) (hfn : Tryd.pinned.checked.prog.funcs[f]? = some fn) :
    true = Tryd.pinned.checked.prog.looks [] ∧ ∀ (j : Nat) t, fn.params[j]? = some t → Tryd.pinned.checked.prog.wantsStandIn t = false := by
  obtain rfl : f = 3 := Option.some.inj ((show Tryd.prog.funcNamed "docket/docketlaw06.BtreeMem" = some 3 by kernel_rfl).symm.trans hf) |>.symm
  obtain rfl : fn = Tryd.f3 := (Option.some.inj (Tryd.func3.symm.trans hfn)).symm
  exact ⟨by kernel_rfl, fun j t ht => (of_decide_eq_true (p := ∀ t ∈ Tryd.f3.params.toList, Tryd.prog.wantsStandIn t = false) (by kernel_rfl)) t (Array.mem_toList_iff.2 (Array.mem_of_getElem? ht))⟩
theorem proved : Rows.BtreeMemUptoCardSaid :=
  Claim7.holds_tied_plain_at .later [] _ _ _ _ saidUpto (fun _ h => by cases h) (by kernel_rfl) (fun _ h => by cases h) btreeMemUpto_row_tie rfl ⟨rfl, rfl⟩ (by kernel_rfl) rfl plain (by kernel_rfl)

end Go.Proofs.YtnogmgnbhcmajaaDoor.btreeMem
