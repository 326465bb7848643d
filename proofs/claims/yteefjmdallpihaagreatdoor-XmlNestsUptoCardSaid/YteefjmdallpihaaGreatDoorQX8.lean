/-
  xml: isShort, isName, isGoodName, areGood. · xml: the census of one node. · xml: the census of a tree. · xml: Good; attempt: a panic that is recovered. · xml: how long the texts of a tree that was read can be. · xml: read. · xml: Parse.
-/
import Derived.Test.YteefjmdallpihaaGreatDoorQX7
namespace Go.Proofs.YteefjmdallpihaaGreatDoor
open Go.RowKit Reply Go.Shelf

set_option maxHeartbeats 1600000 in
theorem shortX_any (w : World) (E : EnvX w) (l : Reply.B) (hl : l.length ≤ 4194304) :
    Calls Tryz.prog 67 #[.string (S l)] w fun e w' => e = .returned (.bool (Xml.short l)) ∧ Below w.heap.size w w' := by
  have LS := S_size l
  have LE := Lib.hid (lettersX_any w E l hl)
  by_cases h60 : l.length ≤ 60
  · have z : decide (((S l).size : Int) ≤ 60) = true := decide_eq_true (by rw [LS]; omega)
    have F : Hid (Xml.short l = Xml.letters l) := by show _ = _; unfold Xml.short; rw [decide_eq_true h60, Bool.true_and]
    generalize Xml.letters l = q at *
    clear E LS h60
    go_enter Tryz.func67, Tryz.ntmps67
    go_wp2_with fail
    refine LE.out.mono ?_
    rintro e w1 ⟨rfl, b1⟩
    have B1 := Lib.hid b1
    clear LE b1
    go_wp2_with fail
    go_ret
    exact ⟨by rw [F.out]; rfl, B1.out⟩
  · have z : decide (((S l).size : Int) ≤ 60) = false := decide_eq_false (by rw [LS]; omega)
    have F : Hid (Xml.short l = false) := by show _ = _; unfold Xml.short; rw [decide_eq_false h60, Bool.false_and]
    clear E LS h60 LE
    go_enter Tryz.func67, Tryz.ntmps67
    go_wp2_with fail
    go_ret
    exact ⟨by rw [F.out]; rfl, Below.refl _ _⟩
set_option maxHeartbeats 1600000 in
theorem isnameX_any (w : World) (l : Reply.B) (hl : l.length ≤ 4294967296) :
    Calls Tryz.prog 91 #[.string (S l)] w fun e w' => e = .returned (.bool (Xml.isName l)) ∧ w = w' := by
  have LS := S_size l
  have NL := Lib.hid (namelen_any w l hl)
  have em : (S l).toList.isEmpty = decide (l = []) := emptyX l
  by_cases he : l = []
  · rw [decide_eq_true he] at em
    have F : Hid (Xml.isName l = false) := by show _ = _; unfold Xml.isName; rw [decide_eq_false (fun h => h he), Bool.false_and]
    clear he NL LS
    go_enter Tryz.func91, Tryz.ntmps91
    go_wp2_with fail
    go_ret
    exact ⟨by rw [F.out]; rfl, rfl⟩
  · rw [decide_eq_false he] at em
    have F : Hid (Xml.isName l = (Xml.nameLen l == l.length)) := by show _ = _; unfold Xml.isName; rw [decide_eq_true he, Bool.true_and]
    have fe : ((Xml.nameLen l : Int) == ((S l).size : Int)) = (Xml.nameLen l == l.length) := by rw [LS, Bool.eq_iff_iff, beq_iff_eq, beq_iff_eq]; omega
    generalize Xml.nameLen l = n at *
    generalize (n == l.length) = q at *
    clear he LS
    go_enter Tryz.func91, Tryz.ntmps91
    go_wp2_with fail
    refine NL.out.mono ?_
    rintro e w1 ⟨rfl, rfl⟩
    clear NL
    go_wp2_with fail
    go_ret
    exact ⟨by rw [F.out]; rfl, rfl⟩
set_option maxHeartbeats 1600000 in
theorem goodnameX_any (w : World) (E : EnvX w) (l : Reply.B) (hl : l.length ≤ 4194304) :
    Calls Tryz.prog 66 #[.string (S l)] w fun e w' => e = .returned (.bool (Xml.goodName l)) ∧ Below w.heap.size w w' := by
  have SH := Lib.hid (shortX_any w E l hl)
  have NA := Lib.hid (fun u => isnameX_any u l (by omega))
  have F : Hid (Xml.goodName l = (Xml.short l && Xml.isName l)) := by show _ = _; unfold Xml.goodName; rfl
  generalize Xml.goodName l = R at *
  generalize Xml.isName l = q at *
  clear E hl
  cases hs : Xml.short l with
  | false =>
    rw [hs] at SH F
    clear hs
    go_enter Tryz.func66, Tryz.ntmps66
    go_wp2_with fail
    refine SH.out.mono ?_
    rintro e w1 ⟨rfl, b1⟩
    have B1 := Lib.hid b1
    clear SH b1
    go_wp2_with fail
    go_ret
    exact ⟨by rw [F.out]; rfl, B1.out⟩
  | true =>
    rw [hs] at SH F
    clear hs
    go_enter Tryz.func66, Tryz.ntmps66
    go_wp2_with fail
    refine SH.out.mono ?_
    rintro e w1 ⟨rfl, b1⟩
    have B1 := Lib.hid b1
    clear SH b1
    go_wp2_with fail
    refine (NA.out _).mono ?_
    rintro e w2 ⟨rfl, rfl⟩
    clear NA
    go_wp2_with fail
    go_ret
    exact ⟨by rw [F.out]; rfl, B1.out⟩
/-- An attribute's test. -/
def goodA (a : Reply.B × Reply.B) : Bool := Xml.goodName a.1 && decide (a.1 ≠ Xml.wXmlns) && Xml.letters a.2
theorem goodA_short {a : Reply.B × Reply.B} (h : goodA a = true) : a.1.length ≤ 60 := by
  unfold goodA Xml.goodName Xml.short at h
  simp only [Bool.and_eq_true, decide_eq_true_eq] at h
  exact h.1.1.1.1
theorem goodAttrs_bad {l : List (Reply.B × Reply.B)} {a : Reply.B × Reply.B} (ha : a ∈ l) (h : goodA a = false) : Xml.goodAttrs l = false := by
  unfold Xml.goodAttrs
  have : l.all (fun a => Xml.goodName a.1 && decide (a.1 ≠ Xml.wXmlns) && Xml.letters a.2) = false := by
    rw [List.all_eq_false]
    exact ⟨a, ha, by show ¬ goodA a = true; rw [h]; simp⟩
  rw [this, Bool.false_and]
theorem goodAttrs_all {l : List (Reply.B × Reply.B)} (h : ∀ a ∈ l, goodA a = true) : Xml.goodAttrs l = Xml.distinct l := by
  unfold Xml.goodAttrs
  have : l.all (fun a => Xml.goodName a.1 && decide (a.1 ≠ Xml.wXmlns) && Xml.letters a.2) = true := by
    rw [List.all_eq_true]
    exact h
  rw [this, Bool.true_and]
set_option maxRecDepth 100000 in
set_option maxHeartbeats 16000000 in
theorem aregoodX_any (w : World) (E : EnvX w) (A : Option Addr) (c : Nat) (l : List (Reply.B × Reply.B)) (hA : HAtA w A l) (hn : l.length ≤ 1048576) (hz : ∀ x ∈ l, x.1.length ≤ 4194304 ∧ x.2.length ≤ 4194304) :
    Calls Tryz.prog 68 #[.slice A l.length c] w fun e w' => e = .returned (.bool (Xml.goodAttrs l)) ∧ Below w.heap.size w w' := by
  have HE := Lib.hid E
  have HA := Lib.hid hA
  have HZ := Lib.hid hz
  obtain ⟨n, hnn⟩ : ∃ n, n = l.length := ⟨_, rfl⟩
  have HN := Lib.hid hnn
  obtain ⟨R, hR⟩ : ∃ x, x = Xml.goodAttrs l := ⟨_, rfl⟩
  have HR := Lib.hid hR
  rw [← hnn] at hn
  rw [← hnn, ← hR]
  clear E hA hz hnn hR
  go_enter Tryz.func68, Tryz.ntmps68
  go_wp2_with fail
  go_loopw [7] (fun v wr => ∃ k : Nat, k ≤ n ∧ v = .int .i64 k ∧ Hid (∀ x ∈ l.take k, goodA x = true) ∧ Hid (Below w.heap.size w wr)) (fun v _ => n - (intOf v).toNat)
  case atStart => exact ⟨0, Nat.zero_le _, rfl, (by show ∀ x ∈ _, _; simp), Below.refl _ _⟩
  case round =>
    obtain ⟨k, hk, rfl, M, BW⟩ := hrel
    by_cases hlt : k < n
    · have hkl : k < l.length := by rw [← HN.out]; exact hlt
      have kz : (k : Int) < (n : Int) := by omega
      obtain ⟨g, off, rfl, x0, x1⟩ := (HA.out.below BW.out).at_ hkl
      obtain ⟨nm, hnm⟩ : ∃ x, x = l[k].1 := ⟨_, rfl⟩
      obtain ⟨sv, hsv⟩ : ∃ x, x = l[k].2 := ⟨_, rfl⟩
      have NX : Hid (l.take (k + 1) = l.take k ++ [l[k]]) := by
        show _ = _
        rw [List.take_succ_eq_append_getElem hkl]
      have IN : Hid (l[k] ∈ l) := List.getElem_mem _
      have GA : Hid (goodA l[k] = (Xml.goodName nm && decide (nm ≠ Xml.wXmlns) && Xml.letters sv)) := by show _ = _; rw [hnm, hsv]; rfl
      have nz := HZ.out _ IN.out
      rw [← hnm] at x0 nz
      rw [← hsv] at x1 nz
      clear hnm hsv
      obtain ⟨wa, hwa⟩ : ∃ x, x = wr.alloc (.cells #[.string (S nm), .string (S sv)] 36) := ⟨_, rfl⟩
      have A1 : Below wr.heap.size wr wa := by rw [hwa]; exact (Below.refl _ _).alloc (Nat.le_refl _) _
      have K1 : Held wa wr.heap.size 36 #[.string (S nm), .string (S sv)] := by rw [hwa]; exact Held.new _ _ _ rfl
      have EA := Lib.hid ((HE.out.below BW.out).below A1)
      have BA := Lib.hid (BW.out.trans (A1.mono BW.out.size))
      have GN := Lib.hid (goodnameX_any wa EA.out nm nz.1)
      have y0 : wa.cell? ⟨wr.heap.size, 0, none⟩ = some (.string (S nm)) := K1.cell 0
      have KK := Lib.hid K1
      rw [hwa] at y0
      have fe1 : ((S nm).toList == [120, 109, 108, 110, 115]) = decide (nm = Xml.wXmlns) := by rw [S_toList]; exact eqdX nm Xml.wXmlns
      have HWA := Lib.hid hwa
      rw [hwa] at GN
      clear hwa A1 K1
      go_wp2_with fail
      refine GN.out.mono ?_
      rintro e w1 ⟨rfl, b1⟩
      rw [← HWA.out] at b1
      have B1 := Lib.hid (BA.out.trans (b1.mono BA.out.size))
      have E1 := Lib.hid (EA.out.below b1)
      have K1 := Lib.hid (Held.below KK.out b1 KK.out.lt)
      clear GN b1 y0
      cases hg : Xml.goodName nm with
      | false =>
        have F : Hid (R = false) := HR.out.trans (goodAttrs_bad IN.out (by rw [GA.out, hg]; rfl))
        clear hg
        go_wp2_with fail
        go_ret
        exact ⟨by rw [F.out]; rfl, B1.out⟩
      | true =>
        have y0 : w1.cell? ⟨wr.heap.size, 0, none⟩ = some (.string (S nm)) := K1.out.cell 0
        have y1 : w1.cell? ⟨wr.heap.size, 1, none⟩ = some (.string (S sv)) := K1.out.cell 1
        by_cases hw : nm = Xml.wXmlns
        · have F : Hid (R = false) := HR.out.trans (goodAttrs_bad IN.out (by rw [GA.out, decide_eq_false (fun h => h hw), Bool.and_false, Bool.false_and]))
          rw [decide_eq_true hw] at fe1
          clear hg hw
          go_wp2_with fail
          go_ret
          exact ⟨by rw [F.out]; rfl, B1.out⟩
        · have GB : Hid (goodA l[k] = Xml.letters sv) := by show _ = _; rw [GA.out, hg, decide_eq_true hw]; rfl
          rw [decide_eq_false hw] at fe1
          have LE := Lib.hid (lettersX_any w1 E1.out sv nz.2)
          clear hg hw
          go_wp2_with fail
          refine LE.out.mono ?_
          rintro e w2 ⟨rfl, b2⟩
          have B2 := Lib.hid (B1.out.trans (b2.mono B1.out.size))
          clear LE b2
          cases hq : Xml.letters sv with
          | false =>
            have F : Hid (R = false) := HR.out.trans (goodAttrs_bad IN.out (by rw [GB.out, hq]))
            clear hq
            go_wp2_with fail
            go_ret
            exact ⟨by rw [F.out]; rfl, B2.out⟩
          | true =>
            have M2 : Hid (∀ x ∈ l.take (k + 1), goodA x = true) := by
              show ∀ x ∈ _, _
              rw [NX.out]
              intro x hx
              rcases List.mem_append.1 hx with hx | hx
              · exact M.out x hx
              · have : x = l[k] := by simpa using hx
                rw [this, GB.out, hq]
            clear hq
            go_wp2_with fail
            go_roundw
            case rel => exact ⟨k + 1, by omega, by go_num, M2, B2⟩
            case measure => simp [intOf]; omega
    · obtain rfl : k = n := by omega
      have AL : ∀ x ∈ l, goodA x = true := by
        have := M.out
        rw [HN.out, List.take_length] at this
        exact this
      have F : Hid (R = Xml.distinct l) := HR.out.trans (goodAttrs_all AL)
      have DX := distX_any wr A c l (HA.out.below BW.out) (by rw [← HN.out]; exact hn) (fun x hx => by have := goodA_short (AL x hx); omega)
      rw [← HN.out] at DX
      have DX := Lib.hid DX
      clear AL
      go_wp2_with fail
      refine DX.out.mono ?_
      rintro e w1 ⟨rfl, b1⟩
      have B1 := Lib.hid (BW.out.trans (b1.mono BW.out.size))
      clear DX b1
      go_wp2_with fail
      go_ret
      exact ⟨by rw [F.out]; rfl, B1.out⟩
end Go.Proofs.YteefjmdallpihaaGreatDoor

namespace Go.Proofs.YteefjmdallpihaaGreatDoor
open Go.RowKit Reply Go.Shelf

/-- The census in block cb: so many nodes are counted; within a call that began in w0. -/
structure CeX (w0 w : World) (cb n : Nat) : Prop where
  env : EnvX w0
  lo : w0.heap.size ≤ cb
  bel : Below w0.heap.size w0 w
  held : Held w cb 78 #[.int .i64 (n : Int)]
section
variable {w0 w w' : World} {cb n m : Nat}
theorem CeX.envw (h : CeX w0 w cb n) : EnvX w := h.env.below h.bel
theorem CeX.under (h : CeX w0 w cb n) (k : Below w.heap.size w w') : CeX w0 w' cb n := ⟨h.env, h.lo, h.bel.trans (k.mono h.bel.size), Held.below h.held k h.held.lt⟩
theorem CeX.set_ (h : CeX w0 w cb n) (m : Nat) : CeX w0 (w.setCell ⟨cb, 0, none⟩ (.int .i64 (m : Int))) cb m := ⟨h.env, h.lo, h.bel.setCell (p := ⟨cb, 0, none⟩) h.lo _, h.held.set_ 0 _⟩
theorem Only.keepN {cs : Array Value} {P : Nat → Prop} (h : Only [cb] w w') (hh : Held w cb 78 cs) : KeepN w w' P P := fun k cs' t m' hk hx ht => ⟨h.block k (Array.getElem?_eq_some_iff.1 hx).1 (fun hm => by
    have : k = cb := by simpa using hm
    subst this
    have e := hx.symm.trans hh
    injection e with e
    injection e with _ e _
    rcases ht with ht | ht <;> rw [ht] at e <;> exact absurd e (by decide)), hk⟩
set_option maxHeartbeats 1600000 in
theorem takesone_any (h : CeX w0 w cb n) (hn : n ≤ 4096) :
    Calls Tryz.prog 65 #[.pointer (some ⟨cb, 0, none⟩)] w fun e w' => e = .returned (.bool (decide (n + 1 ≤ 4096))) ∧ CeX w0 w' cb (n + 1) ∧ Only [cb] w w' := by
  have c0 : w.cell? ⟨cb, 0, none⟩ = some (.int .i64 (n : Int)) := h.held.cell 0
  have f0 : w.frozen? ⟨cb, 0, none⟩ = false := h.held.frozen 0
  have F : Hid (CeX w0 (w.setCell ⟨cb, 0, none⟩ (.int .i64 ((n : Int) + 1))) cb (n + 1)) := h.set_ (n + 1)
  have O : Hid (Only [cb] w (w.setCell ⟨cb, 0, none⟩ (.int .i64 ((n : Int) + 1)))) := setX_only cb 0 w _
  have z1 : decide ((n : Int) + 1 ≤ 4096) = decide (n + 1 ≤ 4096) := by
    rw [Bool.eq_iff_iff, decide_eq_true_eq, decide_eq_true_eq]
    omega
  generalize decide (n + 1 ≤ 4096) = q at *
  clear h
  go_enter Tryz.func65, Tryz.ntmps65
  go_wp2_with fail
  go_ret
  exact ⟨rfl, F.out, O.out⟩
/-- A node that is a text: its test. -/
def textOk (n : Nat) (t sp : Reply.B) (na nk : Nat) : Bool := decide (n + 1 ≤ 4096) && (decide (t ≠ []) && (Xml.letters t && (decide (sp = []) && (decide (na = 0) && decide (nk = 0)))))
set_option maxRecDepth 100000 in
set_option maxHeartbeats 16000000 in
theorem takestext_any (h : CeX w0 w cb n) (hn : n ≤ 4096) (t sp nm : Reply.B) (Aa Ak : Option Addr) (na ca nk ck : Nat) (hl : t.length ≤ 4194304) :
    Calls Tryz.prog 69 #[.pointer (some ⟨cb, 0, none⟩), .agg #[.string (S t), .string (S sp), .string (S nm), .slice Aa na ca, .slice Ak nk ck]] w fun e w' => e = .returned (.bool (textOk n t sp na nk)) ∧ CeX w0 w' cb (n + 1) ∧ Only [cb] w w' := by
  obtain ⟨R, hR⟩ : ∃ x, x = textOk n t sp na nk := ⟨_, rfl⟩
  rw [← hR]
  have HR := Lib.hid hR
  have K0 : Below w.heap.size w (w.alloc (.cells #[.string (S t), .string (S sp), .string (S nm), .slice Aa na ca, .slice Ak nk ck] 28)) := (Below.refl _ _).alloc (Nat.le_refl _) _
  have C0 := Lib.hid (h.under K0)
  have H0 : Hid (Held (w.alloc (.cells #[.string (S t), .string (S sp), .string (S nm), .slice Aa na ca, .slice Ak nk ck] 28)) w.heap.size 28 #[.string (S t), .string (S sp), .string (S nm), .slice Aa na ca, .slice Ak nk ck]) := Held.new w _ _ rfl
  have K0 := Lib.hid K0
  have em : (S t).toList.isEmpty = decide (t = []) := emptyX t
  have es : (S sp).toList.isEmpty = decide (sp = []) := emptyX sp
  have TO := Lib.hid (takesone_any C0.out hn)
  clear h hR
  go_enter Tryz.func69, Tryz.ntmps69
  go_wp2_with fail
  refine TO.out.mono ?_
  rintro e w1 ⟨rfl, c1, o1⟩
  have H1 := Lib.hid (H0.out.only o1 (fun hm => by
    have e1 : w.heap.size = cb := by simpa using hm
    exact Held.ne_ H0.out C0.out.held (by decide) e1))
  have O1 : Hid (Only [cb] w w1) := (Only.of_below (F := [cb]) K0.out).trans o1 (fun x hx => .inl hx)
  have C1 := Lib.hid c1
  have d0 : w1.cell? ⟨w.heap.size, 0, none⟩ = some (.string (S t)) := H1.out.cell 0
  clear c1 o1 TO H0 K0 C0
  by_cases g1 : n + 1 ≤ 4096
  · rw [decide_eq_true g1]
    by_cases g2 : t = []
    · rw [decide_eq_true g2] at em
      have F : Hid (R = false) := HR.out.trans (by unfold textOk; rw [decide_eq_true g1, decide_eq_false (fun h => h g2)]; rfl)
      clear g1 g2 H1
      go_wp2_with fail
      go_ret
      exact ⟨by rw [F.out]; rfl, C1.out, O1.out⟩
    · rw [decide_eq_false g2] at em
      have LE := Lib.hid (lettersX_any w1 C1.out.envw t hl)
      go_wp2_with fail
      refine LE.out.mono ?_
      rintro e w2 ⟨rfl, b2⟩
      have C2 := Lib.hid (C1.out.under b2)
      have O2 := Lib.hid (O1.out.under b2)
      have H2 := Lib.hid (Held.below H1.out b2 H1.out.lt)
      have d1 : w2.cell? ⟨w.heap.size, 1, none⟩ = some (.string (S sp)) := H2.out.cell 1
      have d3 : w2.cell? ⟨w.heap.size, 3, none⟩ = some (.slice Aa na ca) := H2.out.cell 3
      have d4 : w2.cell? ⟨w.heap.size, 4, none⟩ = some (.slice Ak nk ck) := H2.out.cell 4
      clear b2 LE C1 O1 H1 d0
      cases g3 : Xml.letters t with
      | false =>
        have F : Hid (R = false) := HR.out.trans (by unfold textOk; rw [decide_eq_true g1, decide_eq_true g2, g3]; rfl)
        clear g1 g2 g3 H2
        go_wp2_with fail
        go_ret
        exact ⟨by rw [F.out]; rfl, C2.out, O2.out⟩
      | true =>
        by_cases g4 : sp = []
        · rw [decide_eq_true g4] at es
          by_cases g5 : na = 0
          · have z5 : ((na : Int) == 0) = true := by rw [beq_iff_eq]; omega
            by_cases g6 : nk = 0
            · have z6 : ((nk : Int) == 0) = true := by rw [beq_iff_eq]; omega
              have F : Hid (R = true) := HR.out.trans (by unfold textOk; rw [decide_eq_true g1, decide_eq_true g2, g3, decide_eq_true g4, decide_eq_true g5, decide_eq_true g6]; rfl)
              clear g1 g2 g3 g4 H2
              go_wp2_with fail
              go_ret
              exact ⟨by rw [F.out]; rfl, C2.out, O2.out⟩
            · have z6 : ((nk : Int) == 0) = false := by rw [beq_eq_false_iff_ne]; omega
              have F : Hid (R = false) := HR.out.trans (by unfold textOk; rw [decide_eq_true g1, decide_eq_true g2, g3, decide_eq_true g4, decide_eq_true g5, decide_eq_false g6]; rfl)
              clear g1 g2 g3 g4 g6 H2
              go_wp2_with fail
              go_ret
              exact ⟨by rw [F.out]; rfl, C2.out, O2.out⟩
          · have z5 : ((na : Int) == 0) = false := by rw [beq_eq_false_iff_ne]; omega
            have F : Hid (R = false) := HR.out.trans (by unfold textOk; rw [decide_eq_true g1, decide_eq_true g2, g3, decide_eq_true g4, decide_eq_false g5]; rfl)
            clear g1 g2 g3 g4 g5 H2
            go_wp2_with fail
            go_ret
            exact ⟨by rw [F.out]; rfl, C2.out, O2.out⟩
        · rw [decide_eq_false g4] at es
          have F : Hid (R = false) := HR.out.trans (by unfold textOk; rw [decide_eq_true g1, decide_eq_true g2, g3, decide_eq_false g4]; rfl)
          clear g1 g2 g3 g4 H2
          go_wp2_with fail
          go_ret
          exact ⟨by rw [F.out]; rfl, C2.out, O2.out⟩
  · rw [decide_eq_false g1]
    have F : Hid (R = false) := HR.out.trans (by unfold textOk; rw [decide_eq_false g1]; rfl)
    clear g1 H1
    go_wp2_with fail
    go_ret
    exact ⟨by rw [F.out]; rfl, C1.out, O1.out⟩
end
end Go.Proofs.YteefjmdallpihaaGreatDoor

namespace Go.Proofs.YteefjmdallpihaaGreatDoor
open Go.RowKit Reply Go.Shelf

mutual
/-- A tree of sizes that can be walked. -/
def SmN : Xml.Nd → Prop
  | .mk t sp nm al ks => t.length ≤ 4194304 ∧ sp.length ≤ 4194304 ∧ nm.length ≤ 4194304 ∧ al.length ≤ 1048576 ∧ (∀ x ∈ al, x.1.length ≤ 4194304 ∧ x.2.length ≤ 4194304) ∧ ks.length ≤ 1048576 ∧ SmNs ks
def SmNs : List Xml.Nd → Prop
  | [] => True
  | k :: ks => SmN k ∧ SmNs ks
end
theorem SmNs.at_ : ∀ {ks : List Xml.Nd} {k : Nat} {d : Xml.Nd}, SmNs ks → ks[k]? = some d → SmN d
  | [], k, d, _, h => by simp at h
  | x :: ks, 0, d, hs, h => by
    unfold SmNs at hs
    have : x = d := by simpa using h
    exact this ▸ hs.1
  | x :: ks, k + 1, d, hs, h => by
    unfold SmNs at hs
    exact SmNs.at_ hs.2 (by simpa using h)
theorem NdsV.at_ {w : World} {P : Nat → Prop} : ∀ {ks : List Xml.Nd} {l : List NC} {k : Nat} {d : Xml.Nd}, NdsV w P ks l → ks[k]? = some d → ∃ m, l[k]? = some m ∧ NdV w P d m
  | [], l, k, d, _, h => by simp at h
  | x :: ks, l, 0, d, hs, h => by
    unfold NdsV at hs
    obtain ⟨n, r, rfl, h1, _⟩ := hs
    have : x = d := by simpa using h
    exact ⟨n, rfl, this ▸ h1⟩
  | x :: ks, l, k + 1, d, hs, h => by
    unfold NdsV at hs
    obtain ⟨n, r, rfl, _, h2⟩ := hs
    obtain ⟨m, h3, h4⟩ := NdsV.at_ h2 (by simpa using h : ks[k]? = some d)
    exact ⟨m, by simpa using h3, h4⟩
theorem OwnHN.hat {w : World} {base : Nat} {A : Option Addr} {n c : Nat} {l : List NC} (h : OwnHN w base (.slice A n c) l) : HAtN w A l := by
  obtain ⟨A', c', e, _, hA⟩ := h.any
  injection e with e1 e2 e3
  exact e1 ▸ hA
theorem OwnHA.hat {w : World} {base : Nat} {A : Option Addr} {n c : Nat} {l : List (Reply.B × Reply.B)} (h : OwnHA w base (.slice A n c) l) : HAtA w A l := by
  obtain ⟨A', c', e, _, hA⟩ := h.any
  injection e with e1 e2 e3
  exact e1 ▸ hA
theorem OwnHN.len {w : World} {base : Nat} {A : Option Addr} {n c : Nat} {l : List NC} (h : OwnHN w base (.slice A n c) l) : n = l.length := by
  obtain ⟨A', c', e, _, hA⟩ := h.any
  injection e
theorem OwnHA.len {w : World} {base : Nat} {A : Option Addr} {n c : Nat} {l : List (Reply.B × Reply.B)} (h : OwnHA w base (.slice A n c) l) : n = l.length := by
  obtain ⟨A', c', e, _, hA⟩ := h.any
  injection e
theorem text_cond (n : Nat) (t sp : Reply.B) (al : List (Reply.B × Reply.B)) (ks : List Xml.Nd) : (false = true ∨ 4096 ≤ n ∨ t = [] ∨ Xml.letters t = false ∨ sp ≠ [] ∨ al ≠ [] ∨ ks ≠ []) ↔ textOk n t sp al.length ks.length = false := by
  have e1 : (al.length = 0) ↔ (al = []) := List.length_eq_zero_iff
  have e2 : (ks.length = 0) ↔ (ks = []) := List.length_eq_zero_iff
  have key : textOk n t sp al.length ks.length = true ↔ (n + 1 ≤ 4096 ∧ t ≠ [] ∧ Xml.letters t = true ∧ sp = [] ∧ al = [] ∧ ks = []) := by
    unfold textOk
    simp only [Bool.and_eq_true, decide_eq_true_eq, e1, e2]
  constructor
  · intro h
    cases hq : textOk n t sp al.length ks.length with
    | false => rfl
    | true =>
      obtain ⟨a, b, c, d, e, f⟩ := key.1 hq
      rcases h with h | h | h | h | h | h | h
      · cases h
      · omega
      · exact absurd h b
      · rw [h] at c; cases c
      · exact absurd d h
      · exact absurd e h
      · exact absurd f h
  · intro h
    by_cases a : 4096 ≤ n
    · exact .inr (.inl a)
    · by_cases b : t = []
      · exact .inr (.inr (.inl b))
      · by_cases c : Xml.letters t = true
        · by_cases d : sp = []
          · by_cases e : al = []
            · by_cases f : ks = []
              · rw [key.2 ⟨by omega, b, c, d, e, f⟩] at h
                cases h
              · exact .inr (.inr (.inr (.inr (.inr (.inr f)))))
            · exact .inr (.inr (.inr (.inr (.inr (.inl e)))))
          · exact .inr (.inr (.inr (.inr (.inl d))))
        · exact .inr (.inr (.inr (.inl (by simpa using c))))
theorem NdV.parts {w : World} {P : Nat → Prop} {t sp nm : Reply.B} {al : List (Reply.B × Reply.B)} {ks : List Xml.Nd} {m : NC} (h : NdV w P (.mk t sp nm al ks) m) : ∃ (Aa : Option Addr) (ca : Nat) (Ak : Option Addr) (ck : Nat) (l : List NC), m = ⟨t, sp, nm, .slice Aa al.length ca, .slice Ak l.length ck⟩ ∧ OwnHA w 0 (.slice Aa al.length ca) al ∧ InP P (.slice Aa al.length ca) ∧ OwnHN w 0 (.slice Ak l.length ck) l ∧ InP P (.slice Ak l.length ck) ∧ NdsV w P ks l := by
  obtain ⟨t', sp', nm', va, vk⟩ := m
  unfold NdV at h
  obtain ⟨e1, e2, e3, OA, IA, l, OK, IK, NS⟩ := h
  obtain ⟨Aa, ca, hva, _, _⟩ := OA.any
  obtain ⟨Ak, ck, hvk, _, _⟩ := OK.any
  simp only at e1 e2 e3 hva hvk OA IA OK IK
  subst e1 e2 e3 hva hvk
  exact ⟨Aa, ca, Ak, ck, l, rfl, OA, IA, OK, IK, NS⟩
/-- A census of an element between two steps. -/
structure CeE (w0 w : World) (cb b4 : Nat) (t sp nm : Reply.B) (Aa Ak : Option Addr) (na ca nk ck : Nat) (al : List (Reply.B × Reply.B)) (ks : List Xml.Nd) (l : List NC) (n : Nat) (wr : World) : Prop where
  ce : CeX w0 wr cb n
  bx : Held wr b4 28 #[.string (S t), .string (S sp), .string (S nm), .slice Aa na ca, .slice Ak nk ck]
  oa : OwnHA wr 0 (.slice Aa na ca) al
  ok : OwnHN wr 0 (.slice Ak nk ck) l
  ns : NdsV wr (fun _ => True) ks l
  fr : Only [cb] w wr
section
variable {w0 w wr w' : World} {cb b4 n n' : Nat} {t sp nm : Reply.B} {Aa Ak : Option Addr} {na ca nk ck : Nat} {al : List (Reply.B × Reply.B)} {ks : List Xml.Nd} {l : List NC}
theorem CeE.step (h : CeE w0 w cb b4 t sp nm Aa Ak na ca nk ck al ks l n wr) (c : CeX w0 w' cb n') (o : Only [cb] wr w') : CeE w0 w cb b4 t sp nm Aa Ak na ca nk ck al ks l n' w' :=
  ⟨c, h.bx.only o (fun hm => Held.ne_ h.bx h.ce.held (by decide) (by simpa using hm)), o.row h.oa (fun g hg hm => Held.ne_row h.ce.held h.oa (by decide) g hg (by simpa using hm)), o.row h.ok (fun g hg hm => Held.ne_row h.ce.held h.ok (by decide) g hg (by simpa using hm)), NdsV.keep (o.keepN h.ce.held) ks l h.ns, h.fr.trans o (fun _ hx => .inl hx)⟩
theorem CeE.under (h : CeE w0 w cb b4 t sp nm Aa Ak na ca nk ck al ks l n wr) (k : Below wr.heap.size wr w') : CeE w0 w cb b4 t sp nm Aa Ak na ca nk ck al ks l n w' := h.step (h.ce.under k) (Only.of_below k)
end
def CenC (k : Nat) : Prop := ∀ (w0 w : World) (cb n d : Nat) (nd : Xml.Nd) (m : NC), CeX w0 w cb n → n ≤ 4096 → d ≤ 17 → 17 - d ≤ k → SmN nd → NdV w (fun _ => True) nd m →
  Calls Tryz.prog 48 #[.pointer (some ⟨cb, 0, none⟩), m.val, .int .i64 (d : Int)] w fun e w' => e = .returned (.bool (Xml.census n d nd).isSome) ∧ Only [cb] w w' ∧ ∀ x, Xml.census n d nd = some x → CeX w0 w' cb x ∧ x ≤ 4096
set_option maxRecDepth 100000 in
set_option maxHeartbeats 32000000 in
theorem cenX_step (k0 : Nat) (IH : ∀ j, j < k0 → CenC j) : CenC k0 := by
  intro w0 w cb n d nd m C hn hd hk hS hN
  obtain ⟨t, sp, nm, al, ks⟩ := nd
  obtain ⟨Aa, ca, Ak, ck, l, rfl, OA, _, OK, _, NS⟩ := hN.parts
  show Calls Tryz.prog 48 #[.pointer (some ⟨cb, 0, none⟩), .agg #[.string (S t), .string (S sp), .string (S nm), .slice Aa al.length ca, .slice Ak l.length ck], .int .i64 (d : Int)] w _
  obtain ⟨R, hR⟩ : ∃ x, x = Xml.census n d (.mk t sp nm al ks) := ⟨_, rfl⟩
  rw [← hR]
  have E : Hid (R = if 16 < d ∨ 4096 ≤ n ∨ t ≠ [] ∨ Xml.goodName nm = false ∨ Xml.short sp = false ∨ Xml.goodAttrs al = false then none else Xml.censusAll (n + 1) d false ks) := by show _ = _; rw [hR, Xml.census]
  have HI := Lib.hid IH
  unfold SmN at hS
  obtain ⟨s1, s2, s3, s4, s5, s6, s7⟩ := hS
  have S5 := Lib.hid s5
  have S7 := Lib.hid s7
  have LK : l.length = ks.length := NdsV.length NS
  obtain ⟨na, hna⟩ : ∃ x, x = al.length := ⟨_, rfl⟩
  obtain ⟨nk, hnk⟩ : ∃ x, x = l.length := ⟨_, rfl⟩
  have HNA := Lib.hid hna
  have HNK := Lib.hid hnk
  rw [← hna] at OA s4 ⊢
  rw [← hnk] at OK LK ⊢
  have nkb : nk ≤ 1048576 := by rw [LK]; exact s6
  have LH := Lib.hid LK
  clear LK
  have K0 : Below w.heap.size w (w.alloc (.cells #[.string (S t), .string (S sp), .string (S nm), .slice Aa na ca, .slice Ak nk ck] 28)) := (Below.refl _ _).alloc (Nat.le_refl _) _
  have T0 : Hid (CeE w0 w cb w.heap.size t sp nm Aa Ak na ca nk ck al ks l n (w.alloc (.cells #[.string (S t), .string (S sp), .string (S nm), .slice Aa na ca, .slice Ak nk ck] 28))) :=
    ⟨C.under K0, Held.new w _ _ rfl, OA.below K0, OK.below K0, NdsV.keep (KeepN.below K0 (fun _ h => h)) ks l NS, Only.of_below K0⟩
  clear hR IH s5 s7 hna hnk K0 C OA OK NS
  have em : (S t).toList.isEmpty = decide (t = []) := emptyX t
  by_cases h16 : 16 < d
  · have z : decide ((16 : Int) < (d : Int)) = true := decide_eq_true (by omega)
    have F : Hid (R = none) := E.out.trans (if_pos (.inl h16))
    go_enter Tryz.func48, Tryz.ntmps48
    go_wp2_with fail
    go_ret
    exact ⟨by rw [F.out]; rfl, T0.out.fr, fun x hx => by rw [F.out] at hx; cases hx⟩
  · have z : decide ((16 : Int) < (d : Int)) = false := decide_eq_false (by omega)
    have TO := Lib.hid (takesone_any T0.out.ce hn)
    go_enter Tryz.func48, Tryz.ntmps48
    go_wp2_with fail
    refine TO.out.mono ?_
    rintro e w1 ⟨rfl, c1, o1⟩
    have T1 := Lib.hid (T0.out.step c1 o1)
    clear c1 o1 TO T0
    have d0 : w1.cell? ⟨w.heap.size, 0, none⟩ = some (.string (S t)) := T1.out.bx.cell 0
    have d2 : w1.cell? ⟨w.heap.size, 2, none⟩ = some (.string (S nm)) := T1.out.bx.cell 2
    by_cases g1 : n + 1 ≤ 4096
    · rw [decide_eq_true g1]
      by_cases g2 : t = []
      · rw [decide_eq_true g2] at em
        have G2 := Lib.hid g2
        clear g2
        have GN := Lib.hid (goodnameX_any w1 T1.out.ce.envw nm s3)
        go_wp2_with fail
        refine GN.out.mono ?_
        rintro e w2 ⟨rfl, b2⟩
        have T2 := Lib.hid (T1.out.under b2)
        have d1 : w2.cell? ⟨w.heap.size, 1, none⟩ = some (.string (S sp)) := T2.out.bx.cell 1
        clear b2 GN d0 d2 T1
        cases g3 : Xml.goodName nm with
        | false =>
          have F : Hid (R = none) := E.out.trans (if_pos (.inr (.inr (.inr (.inl g3)))))
          clear g3
          go_wp2_with fail
          go_ret
          exact ⟨by rw [F.out]; rfl, T2.out.fr, fun x hx => by rw [F.out] at hx; cases hx⟩
        | true =>
          have SH := Lib.hid (shortX_any w2 T2.out.ce.envw sp s2)
          go_wp2_with fail
          refine SH.out.mono ?_
          rintro e w3 ⟨rfl, b3⟩
          have T3 := Lib.hid (T2.out.under b3)
          have d3 : w3.cell? ⟨w.heap.size, 3, none⟩ = some (.slice Aa na ca) := T3.out.bx.cell 3
          clear b3 SH d1 T2
          cases g4 : Xml.short sp with
          | false =>
            have F : Hid (R = none) := E.out.trans (if_pos (.inr (.inr (.inr (.inr (.inl g4))))))
            clear g3 g4
            go_wp2_with fail
            go_ret
            exact ⟨by rw [F.out]; rfl, T3.out.fr, fun x hx => by rw [F.out] at hx; cases hx⟩
          | true =>
            have AG := aregoodX_any w3 T3.out.ce.envw Aa ca al T3.out.oa.hat (by rw [← HNA.out]; exact s4) S5.out
            rw [← HNA.out] at AG
            have AG := Lib.hid AG
            go_wp2_with fail
            refine AG.out.mono ?_
            rintro e w4 ⟨rfl, b4⟩
            have T4 := Lib.hid (T3.out.under b4)
            have d4 : w4.cell? ⟨w.heap.size, 4, none⟩ = some (.slice Ak nk ck) := T4.out.bx.cell 4
            clear b4 AG d3 T3
            cases g5 : Xml.goodAttrs al with
            | false =>
              have F : Hid (R = none) := E.out.trans (if_pos (.inr (.inr (.inr (.inr (.inr g5))))))
              clear g3 g4 g5
              go_wp2_with fail
              go_ret
              exact ⟨by rw [F.out]; rfl, T4.out.fr, fun x hx => by rw [F.out] at hx; cases hx⟩
            | true =>
              have E : Hid (R = Xml.censusAll (n + 1) d false ks) := E.out.trans (if_neg (by
                rintro (h | h | h | h | h | h)
                · exact h16 h
                · omega
                · exact h G2.out
                · rw [g3] at h; cases h
                · rw [g4] at h; cases h
                · rw [g5] at h; cases h))
              clear G2 g3 g4 g5 em
              go_wp2_with fail
              clear d4 z
              go_loopw [7, 44] (fun v7 v44 wr => ∃ (k n1 : Nat) (b : Bool), k ≤ nk ∧ v44 = .int .i64 k ∧ v7 = .bool b ∧ n1 ≤ 4096 ∧ Hid (CeE w0 w cb w.heap.size t sp nm Aa Ak na ca nk ck al ks l n1 wr) ∧ Hid (R = Xml.censusAll n1 d b (ks.drop k))) (fun _ v44 _ => nk - (intOf v44).toNat)
              case atStart => exact ⟨0, n + 1, false, Nat.zero_le _, rfl, rfl, g1, T4, by rw [List.drop_zero]; exact E⟩
              case round =>
                clear T4 E
                obtain ⟨k, n1, b, hkn, rfl, rfl, hn1, T5, E5⟩ := hrel
                by_cases hlt : k < nk
                · have hkl : k < l.length := by rw [← HNK.out]; exact hlt
                  have hks : k < ks.length := by rw [← LH.out]; exact hlt
                  have kz : (k : Int) < (nk : Int) := by omega
                  obtain ⟨m9, hm9, nv9⟩ := T5.out.ns.at_ (List.getElem?_eq_getElem hks)
                  have em9 : l[k] = m9 := by
                    rw [List.getElem?_eq_getElem hkl] at hm9
                    exact Option.some.inj hm9
                  have S9 := S7.out.at_ (List.getElem?_eq_getElem hks)
                  obtain ⟨g, off, hAk, x0, x1, x2, x3, x4⟩ := T5.out.ok.hat.at_ hkl
                  rw [em9] at x0 x1 x2 x3 x4
                  have ED : ks.drop k = ks[k] :: ks.drop (k + 1) := List.drop_eq_getElem_cons hks
                  rw [ED] at E5
                  obtain ⟨d9, hd9⟩ : ∃ x, x = ks[k] := ⟨_, rfl⟩
                  rw [← hd9] at nv9 S9 E5
                  obtain ⟨t9, sp9, nm9, al9, ks9⟩ := d9
                  have NV := Lib.hid nv9
                  obtain ⟨Aq, cq, Ar, cr, l9, rfl, oa9, _, ok9, _, ns9⟩ := nv9.parts
                  obtain ⟨kq, hkq⟩ : ∃ x, x = al9.length := ⟨_, rfl⟩
                  obtain ⟨kr, hkr⟩ : ∃ x, x = l9.length := ⟨_, rfl⟩
                  have LQ : Hid (kq = al9.length) := hkq
                  have LR : Hid (kr = ks9.length) := hkr.trans (NdsV.length ns9)
                  rw [← hkq, ← hkr] at NV
                  simp only at x0 x1 x2 x3 x4
                  rw [← hkq] at x3
                  rw [← hkr] at x4
                  have E6 : Hid (R = if nm9 = [] then (if b = true ∨ 4096 ≤ n1 ∨ t9 = [] ∨ Xml.letters t9 = false ∨ sp9 ≠ [] ∨ al9 ≠ [] ∨ ks9 ≠ [] then none else Xml.censusAll (n1 + 1) d true (ks.drop (k + 1))) else match Xml.census n1 (d + 1) (.mk t9 sp9 nm9 al9 ks9) with
                    | some m => Xml.censusAll m d false (ks.drop (k + 1))
                    | none => none) := by show _ = _; rw [E5.out, Xml.censusAll]; rfl
                  have S9' := S9
                  unfold SmN at S9'
                  have s9 : t9.length ≤ 4194304 := S9'.1
                  have S9 := Lib.hid S9
                  clear S9' oa9 ok9 ns9 hm9 em9 ED hd9 E5 hks hkl hkq hkr nv9
                  have AU : Below wr.heap.size wr (wr.alloc (.cells #[.string (S t9), .string (S sp9), .string (S nm9), .slice Aq kq cq, .slice Ar kr cr] 28)) := (Below.refl _ _).alloc (Nat.le_refl _) _
                  have TU := Lib.hid (T5.out.under AU)
                  have NU := Lib.hid (NdV.keep (KeepN.below AU (fun _ h => h)) _ _ NV.out)
                  have y2 : (wr.alloc (.cells #[.string (S t9), .string (S sp9), .string (S nm9), .slice Aq kq cq, .slice Ar kr cr] 28)).cell? ⟨wr.heap.size, 2, none⟩ = some (.string (S nm9)) := (Held.new wr 28 #[.string (S t9), .string (S sp9), .string (S nm9), .slice Aq kq cq, .slice Ar kr cr] rfl).cell 2
                  have en : (S nm9).toList.isEmpty = decide (nm9 = []) := emptyX nm9
                  subst hAk
                  clear AU NV T5
                  by_cases hnm : nm9 = []
                  · rw [decide_eq_true hnm] at en
                    rw [if_pos hnm] at E6
                    clear hnm
                    cases b with
                    | true =>
                      have F : Hid (R = none) := E6.out.trans (if_pos (.inl rfl))
                      go_wp2_with fail
                      go_ret
                      exact ⟨by rw [F.out]; rfl, TU.out.fr, fun x hx => by rw [F.out] at hx; cases hx⟩
                    | false =>
                      have TT := Lib.hid (takestext_any TU.out.ce hn1 t9 sp9 nm9 Aq Ar kq cq kr cr s9)
                      go_wp2_with fail
                      refine TT.out.mono ?_
                      rintro e w6 ⟨rfl, c6, o6⟩
                      have T6 := Lib.hid (TU.out.step c6 o6)
                      clear c6 o6 TT TU
                      cases hq : textOk n1 t9 sp9 kq kr with
                      | false =>
                        have F : Hid (R = none) := E6.out.trans (if_pos ((text_cond n1 t9 sp9 al9 ks9).2 (by rw [← LQ.out, ← LR.out]; exact hq)))
                        clear hq
                        go_wp2_with fail
                        go_ret
                        exact ⟨by rw [F.out]; rfl, T6.out.fr, fun x hx => by rw [F.out] at hx; cases hx⟩
                      | true =>
                        have F : Hid (R = Xml.censusAll (n1 + 1) d true (ks.drop (k + 1))) := E6.out.trans (if_neg (fun h => by
                          have := (text_cond n1 t9 sp9 al9 ks9).1 h
                          rw [← LQ.out, ← LR.out, hq] at this
                          cases this))
                        have hn2 : n1 + 1 ≤ 4096 := by
                          unfold textOk at hq
                          simp only [Bool.and_eq_true, decide_eq_true_eq] at hq
                          exact hq.1
                        clear hq
                        go_wp2_with fail
                        go_roundw
                        case rel => exact ⟨k + 1, n1 + 1, true, by omega, by go_num, rfl, hn2, T6, F⟩
                        case measure => simp [intOf]; omega
                  · rw [decide_eq_false hnm] at en
                    rw [if_neg hnm] at E6
                    clear hnm
                    have TE := Lib.hid (HI.out (k0 - 1) (by omega) w0 _ cb n1 (d + 1) _ _ TU.out.ce hn1 (by omega) (by omega) S9.out NU.out)
                    have TE : Hid (Calls Tryz.prog 48 #[.pointer (some ⟨cb, 0, none⟩), .agg #[.string (S t9), .string (S sp9), .string (S nm9), .slice Aq kq cq, .slice Ar kr cr], .int .i64 ((d : Int) + 1)] (wr.alloc (.cells #[.string (S t9), .string (S sp9), .string (S nm9), .slice Aq kq cq, .slice Ar kr cr] 28)) fun e w' => e = .returned (.bool (Xml.census n1 (d + 1) (.mk t9 sp9 nm9 al9 ks9)).isSome) ∧ Only [cb] (wr.alloc (.cells #[.string (S t9), .string (S sp9), .string (S nm9), .slice Aq kq cq, .slice Ar kr cr] 28)) w' ∧ ∀ x, Xml.census n1 (d + 1) (.mk t9 sp9 nm9 al9 ks9) = some x → CeX w0 w' cb x ∧ x ≤ 4096) := TE.out
                    cases b <;>
                    · go_wp2_with fail
                      refine TE.out.mono ?_
                      rintro e w6 ⟨rfl, o6, c6⟩
                      cases hq : Xml.census n1 (d + 1) (.mk t9 sp9 nm9 al9 ks9) with
                      | none =>
                        rw [hq] at E6
                        have F : Hid (R = none) := E6.out
                        have O6 := Lib.hid (TU.out.fr.trans o6 (fun _ hx => .inl hx))
                        clear hq c6 o6 TE TU
                        go_wp2_with fail
                        go_ret
                        exact ⟨by rw [F.out]; rfl, O6.out, fun x hx => by rw [F.out] at hx; cases hx⟩
                      | some x =>
                        rw [hq] at E6
                        have F : Hid (R = Xml.censusAll x d false (ks.drop (k + 1))) := E6.out
                        obtain ⟨c7, hn2⟩ := c6 x hq
                        have T6 := Lib.hid (TU.out.step c7 o6)
                        clear hq c6 o6 c7 TE TU
                        go_wp2_with fail
                        go_roundw
                        case rel => exact ⟨k + 1, x, false, by omega, by go_num, rfl, hn2, T6, F⟩
                        case measure => simp [intOf]; omega
                · obtain rfl : k = nk := by omega
                  have F : Hid (R = some n1) := by
                    show _ = _
                    rw [E5.out, LH.out, List.drop_length, Xml.censusAll]
                  go_wp2_with fail
                  go_ret
                  exact ⟨by rw [F.out]; rfl, T5.out.fr, fun x hx => by
                    rw [F.out] at hx
                    obtain rfl := Option.some.inj hx
                    exact ⟨T5.out.ce, hn1⟩⟩
      · have F : Hid (R = none) := E.out.trans (if_pos (.inr (.inr (.inl g2))))
        rw [decide_eq_false g2] at em
        clear g2
        go_wp2_with fail
        go_ret
        exact ⟨by rw [F.out]; rfl, T1.out.fr, fun x hx => by rw [F.out] at hx; cases hx⟩
    · have F : Hid (R = none) := E.out.trans (if_pos (.inr (.inl (by omega))))
      rw [decide_eq_false g1]
      clear g1
      go_wp2_with fail
      go_ret
      exact ⟨by rw [F.out]; rfl, T1.out.fr, fun x hx => by rw [F.out] at hx; cases hx⟩
theorem cenX_all : ∀ k, CenC k := fun k => by
  induction k using Nat.strongRecOn with
  | ind k ih => exact cenX_step k ih
end Go.Proofs.YteefjmdallpihaaGreatDoor

namespace Go.Proofs.YteefjmdallpihaaGreatDoor
open Go.RowKit Reply Go.Shelf

set_option maxRecDepth 100000 in
set_option maxHeartbeats 4000000 in
theorem goodX_any (w : World) (E : EnvX w) (nd : Xml.Nd) (m : NC) (hS : SmN nd) (hN : NdV w (fun _ => True) nd m) :
    Calls Tryz.prog 29 #[m.val] w fun e w' => e = .returned (.bool (Xml.good nd)) ∧ Below w.heap.size w w' := by
  obtain ⟨t, sp, nm, al, ks⟩ := nd
  obtain ⟨Aa, ca, Ak, ck, l, rfl, OA, _, OK, _, NS⟩ := hN.parts
  show Calls Tryz.prog 29 #[.agg #[.string (S t), .string (S sp), .string (S nm), .slice Aa al.length ca, .slice Ak l.length ck]] w _
  have NV := Lib.hid hN
  have HS := Lib.hid hS
  obtain ⟨nd, hnd⟩ : ∃ x, x = Xml.Nd.mk t sp nm al ks := ⟨_, rfl⟩
  rw [← hnd] at NV HS ⊢
  generalize al.length = na at *
  generalize l.length = nk at *
  obtain ⟨w2, hw2⟩ : ∃ x, x = (w.alloc (.cells #[.string (S t), .string (S sp), .string (S nm), .slice Aa na ca, .slice Ak nk ck] 28)).alloc (.cells #[.int .i64 0] 78) := ⟨_, rfl⟩
  have K2 : Below w.heap.size w w2 := by rw [hw2]; exact ((Below.refl _ _).alloc (Nat.le_refl _) _).alloc (by simp) _
  have H2 : Held w2 (w.heap.size + 1) 78 #[.int .i64 ((0 : Nat) : Int)] := by rw [hw2]; exact Held.new _ _ _ (by simp)
  have C2 : CeX w w2 (w.heap.size + 1) 0 := ⟨E, Nat.le_succ _, K2, H2⟩
  have CC := Lib.hid (cenX_all 16 w w2 (w.heap.size + 1) 0 1 nd _ C2 (by omega) (by omega) (by omega) HS.out (NdV.keep (KeepN.below K2 (fun _ h => h)) _ _ NV.out))
  have K2 := Lib.hid K2
  have CC : Hid (Calls Tryz.prog 48 #[.pointer (some ⟨w.heap.size + 1, 0, none⟩), .agg #[.string (S t), .string (S sp), .string (S nm), .slice Aa na ca, .slice Ak nk ck], .int .i64 1] ((w.alloc (.cells #[.string (S t), .string (S sp), .string (S nm), .slice Aa na ca, .slice Ak nk ck] 28)).alloc (.cells #[.int .i64 0] 78)) fun e w' => e = .returned (.bool (Xml.census 0 1 nd).isSome) ∧ Only [w.heap.size + 1] w2 w') := by
    rw [← hw2]
    refine CC.out.mono ?_
    rintro e w' ⟨h1, h2, _⟩
    exact ⟨h1, h2⟩
  clear hN OA OK NS E hS HS NV hnd H2 C2 hw2
  go_enter Tryz.func29, Tryz.ntmps29
  go_wp2_with fail
  refine CC.out.mono ?_
  rintro e w3 ⟨rfl, o3⟩
  have O3 : Hid (Below w.heap.size w w3) := o3.from_ K2.out (fun x hx => by
    have : x = w.heap.size + 1 := by simpa using hx
    omega)
  have G : Hid (Xml.good nd = (Xml.census 0 1 nd).isSome) := rfl
  clear CC o3
  go_wp2_with fail
  go_ret
  exact ⟨by rw [G.out]; rfl, O3.out⟩
theorem load_oneX {w : World} {b t : Nat} {v : Value} (ha : (isAgg t).run Tryz.prog w = .ok false w) (h : Held w b t #[v]) : (loadVar t ⟨b, 0, none⟩).run Tryz.prog w = .ok v w := by
  have hc : w.cell? ⟨b, 0, none⟩ = some v := h.cell 0
  unfold loadVar
  simp only [go_sem]
  simp [run_load]
  rw [ha]
  show (match w.cell? ⟨b, 0, none⟩ with | some v => _ | none => _) = _
  rw [hc]
set_option maxRecDepth 100000 in
set_option maxHeartbeats 800000 in
theorem catchX_panicking (b : Nat) (err : Int) (v0 : Value) (older : List PanicEntry) (w : World) (hb : Held w b 29 #[v0]) :
    CallsD Tryz.prog 23 #[.pointer (some ⟨b, 0, none⟩)] (.panicking ({ v := troubleX err, recovered := false } :: older)) w fun e u' w' =>
      e = .returned (.tuple #[]) ∧ u' = .panicking ({ v := troubleX err, recovered := true } :: older) ∧ ∃ o, w' = (w.alloc o).setCell ⟨b, 0, none⟩ (.int .i64 err) := by
  refine callsD_of_wpS Tryz.func23 rfl fun c₀ cs hu => ?_
  have ta : ∀ u, (Instr.typeAssert (.iface 50 (.agg #[.int .i64 err])) 20 50 true).run Tryz.prog u = .ok (.tuple #[.agg #[.int .i64 err], .bool true]) u := fun u => by
    simp [Instr.typeAssert, go_sem]
  obtain ⟨q, hq⟩ : ∃ q, q = w.heap.size := ⟨_, rfl⟩
  obtain ⟨w1, hw1⟩ : ∃ w1, w1 = w.alloc (.cells #[.int .i64 err] 50) := ⟨_, rfl⟩
  have N1 : Hid (Held w1 q 50 #[.int .i64 err]) := by rw [hw1]; exact Held.new _ _ _ hq
  have H1 : Hid (Held w1 b 29 #[v0]) := by rw [hw1]; exact hb.alloc _
  have n0 := N1.out.cell 0
  have c0 := H1.out.cell 0
  have z0 := H1.out.frozen 0
  have HW1 := Lib.hid hw1
  have HQ := Lib.hid hq
  unfold troubleX at hu ⊢
  clear hw1 hq hb
  simp only [Tryz.ntmps23, List.size_toArray, List.length_cons, List.length_nil, Nat.reduceAdd, Nat.reduceSub, Array.replicate_succ, Array.replicate_zero, List.push_toArray, List.append_toArray, List.nil_append, List.cons_append]
  apply wpS_seq
  apply wpS_region
  simp [wpOpsS, go_sem, recoverD, hu, Exit.thenS]
  refine wpS_of_wp ?_
  go_upto_region 7 with fail
  rw [← HW1.out, ← HQ.out]
  go_wp2_with fail
  exact ⟨rfl, _, rfl, _, results_none rfl _ _ _, rfl, rfl, .cells #[.int .i64 err] 50, by rw [HW1.out]⟩
set_option maxRecDepth 100000 in
theorem catchX_idle (p : Addr) (w : World) :
    CallsD Tryz.prog 23 #[.pointer (some p)] .returning w fun e u' w' => e = .returned (.tuple #[]) ∧ u' = .returning ∧ w' = w := by
  refine callsD_of_wpS Tryz.func23 rfl fun c₀ cs hu => ?_
  simp only [Tryz.ntmps23, List.size_toArray, List.length_cons, List.length_nil, Nat.reduceAdd, Nat.reduceSub, Array.replicate_succ, Array.replicate_zero, List.push_toArray, List.append_toArray, List.nil_append, List.cons_append]
  apply wpS_seq
  apply wpS_region
  simp [wpOpsS, go_sem, recoverD, hu, Exit.thenS]
  refine wpS_of_wp ?_
  go_wp2
  exact ⟨rfl, .returning, by cases c₀; simp_all, _, results_none rfl _ _ _, rfl, rfl, rfl⟩
set_option maxRecDepth 100000 in
set_option maxHeartbeats 800000 in
/-- attempt, whatever the work is. -/
theorem attemptX_any (k : FuncId) (caps : Array Value) (w : World) (RO : World → Prop) (RB : Int → World → Prop) (hk : ∀ u, (callFunc k caps).run Tryz.prog u = .ok (.enter k caps) u)
    (h : Calls Tryz.prog k caps (w.alloc (.cells #[.int .i64 0] 29)) fun e w2 => Held w2 w.heap.size 29 #[.int .i64 0] ∧ ((e = .returned (.tuple #[]) ∧ RO w2) ∨ ∃ err, e = .panicked [{ v := troubleX err, recovered := false }] ∧ RB err w2)) :
    Calls Tryz.prog 13 #[.func (.func k) #[] caps] w fun e w3 => ∃ w2, (RO w2 ∧ e = .returned (.int .i64 0) ∧ w3 = w2.setCell ⟨w.heap.size, 0, none⟩ (.int .i64 0)) ∨ (∃ err o, RB err w2 ∧ e = .returned (.int .i64 err) ∧ w3 = (w2.alloc o).setCell ⟨w.heap.size, 0, none⟩ (.int .i64 err)) := by
  have H := Lib.hid h
  clear h
  have hmf : ∀ (fn : Fn) (first cap : Array Value) (w : World), (Instr.makeFunc fn first cap).run Tryz.prog w = .ok (.func fn first cap) w := fun _ _ _ _ => rfl
  go_enter_defers Tryz.func13, Tryz.ntmps13
  go_wp2
  refine H.out.mono ?_
  rintro e w2 ⟨hb, ⟨rfl, hr⟩ | ⟨err, rfl, hr⟩⟩
  · have RR := Lib.hid hr
    have c0 := hb.cell 0
    have z0 := hb.frozen 0
    have FH : Hid (Held (w2.setCell ⟨w.heap.size, 0, none⟩ (.int .i64 0)) w.heap.size 29 #[.int .i64 0]) := hb.set_ 0 _
    clear hr hb H
    go_wp2
    refine leaves_cons (f := 23) (args := #[.pointer (some ⟨w.heap.size, 0, none⟩)]) (by simp) (by simp [go_sem]) ?_
    refine (catchX_idle ⟨w.heap.size, 0, none⟩ _).mono ?_
    rintro e u' w'' ⟨rfl, rfl, rfl⟩
    exact ⟨_, resX _ _ 2 29 _ _ Tryz.results13 rfl (load_oneX (Tryz.isAgg29 _) FH.out), _, .inl ⟨RR.out, rfl, rfl⟩⟩
  · have RR := Lib.hid hr
    have HB := Lib.hid hb
    clear hr H
    go_wp2
    refine leaves_cons (f := 23) (args := #[.pointer (some ⟨w.heap.size, 0, none⟩)]) (by simp) (by simp [go_sem]) ?_
    refine (catchX_panicking w.heap.size err _ [] _ HB.out).mono ?_
    rintro e u' w'' ⟨rfl, rfl, o, rfl⟩
    have FH : Held ((w2.alloc o).setCell ⟨w.heap.size, 0, none⟩ (.int .i64 err)) w.heap.size 29 #[.int .i64 err] := (HB.out.alloc o).set_ 0 _
    simp only [settle]
    exact ⟨_, resX _ _ 2 29 _ _ Tryz.results13 rfl (load_oneX (Tryz.isAgg29 _) FH), _, .inr ⟨err, o, RR.out, rfl, rfl⟩⟩
end Go.Proofs.YteefjmdallpihaaGreatDoor

namespace Go.Proofs.YteefjmdallpihaaGreatDoor
namespace Xml
open Go.Lib
theorem text_size : ∀ (f : Nat) {s s' : St} {l l' : B}, text f s l = .ok l' s' → l'.length + 4 * s'.rest.length ≤ l.length + 4 * s.rest.length
  | 0, s, s', l, l', h => by cases h
  | f + 1, s, s', l, l', h => by
    cases hr : remark s with
    | bad n => rw [text_bad hr] at h; cases h
    | ok b s1 =>
      have k := (remark_ok hr).1
      cases b with
      | true =>
        rw [text_rem hr] at h
        have ih := text_size f h
        omega
      | false =>
        rw [text_else hr] at h
        split at h
        · rename_i hk
          have k1 := (skip_le s tCdata).1
          cases hu : upto (skip s tCdata).2 tCdataEnd with
          | bad n => rw [hu] at h; cases h
          | ok a s2 =>
            rw [hu] at h
            have k2 := (upto_ok hu).1
            have ih := text_size f h
            have k3 := unify_le a
            rw [List.length_append] at ih
            omega
        · split at h
          · rename_i hk
            have k1 := skip_lt s [38] hk
            cases hu : reference (skip s [38]).2 with
            | bad n => rw [hu] at h; cases h
            | ok a s2 =>
              rw [hu] at h
              have k2 := (reference_ok hu).1
              have ih := text_size f h
              have k3 := utf8_le a
              rw [List.length_append] at ih
              simp only [List.length_singleton] at k1
              omega
          · split at h
            · injection h with h1 h2
              subst h1 h2
              exact Nat.le_refl _
            · split at h
              · cases h
              · have ih := text_size f h
                have k1 := plain_len s [60, 38]
                have k3 := unify_le (plain s [60, 38]).1
                rw [List.length_append] at ih
                omega
theorem inside_size : ∀ (f : Nat) {s s' : St} {l l' : B}, inside f s l = .ok l' s' → l'.length + 4 * s'.rest.length ≤ l.length + 4 * s.rest.length
  | 0, s, s', l, l', h => by cases h
  | f + 1, s, s', l, l', h => by
    by_cases he : s.rest = []
    · rw [inside_end he] at h
      injection h with h1 h2
      subst h1 h2
      exact Nat.le_refl _
    · cases hk : (skip s [38]).1 with
      | true =>
        rw [inside_amp he hk] at h
        have k1 := skip_lt s [38] hk
        cases hu : reference (skip s [38]).2 with
        | bad n => rw [hu] at h; cases h
        | ok a s2 =>
          rw [hu] at h
          have k2 := (reference_ok hu).1
          have ih := inside_size f h
          have k3 := utf8_le a
          rw [List.length_append] at ih
          simp only [List.length_singleton] at k1
          omega
      | false =>
        rw [inside_plain he hk] at h
        have ih := inside_size f h
        have k1 := plain_len s [38]
        have k3 := unify_le (plain s [38]).1
        have k4 := flatten_le (unify (plain s [38]).1)
        rw [List.length_append] at ih
        omega
theorem quoted_size {f : Nat} {s s' : St} {q l : B} (h : quoted f s q = .ok l s') : l.length + 4 * s'.rest.length ≤ 4 * s.rest.length := by
  rw [quoted_eq] at h
  cases hu : upto s q with
  | bad n => rw [hu] at h; cases h
  | ok i s1 =>
    rw [hu] at h
    simp only [Res.then] at h
    have k := (upto_ok hu).1
    split at h
    · cases h
    · have e := insideR_sp h
      subst e
      cases hi : inside f ⟨i, []⟩ [] with
      | bad n => rw [insideR_bad hi] at h; cases h
      | ok l2 t =>
        rw [insideR_ok hi] at h
        injection h with h1 h2
        subst h1
        have := inside_size f hi
        simp only [List.length_nil] at this
        omega
theorem value_size {f : Nat} {s s' : St} {l : B} (h : value f s = .ok l s') : l.length + 4 * s'.rest.length ≤ 4 * s.rest.length := by
  unfold value at h
  split at h
  · have k := (skip_le s [34]).1
    have := quoted_size h
    omega
  · cases hn : need s [39] with
    | bad n => rw [hn] at h; cases h
    | ok u s1 =>
      rw [hn] at h
      have k := (need_ok hn).1
      have := quoted_size h
      omega
theorem attributes_size : ∀ (f : Nat) {s s' : St} {l l' : List (B × B)}, attributes f s l = .ok l' s' → s.rest.length ≤ 65536 → (∀ x ∈ l, x.2.length ≤ 262144) → ∀ x ∈ l', x.2.length ≤ 262144
  | 0, s, s', l, l', h, _, _ => by cases h
  | f + 1, s, s', l, l', h, hr, hl => by
    have w1 := (white_le s).1
    by_cases hg : (white s).1 = true ∧ 0 < nameLen (white s).2.rest
    · rw [attr_go hg.1 hg.2] at h
      cases h1 : fullName (white s).2 with
      | bad n => rw [h1] at h; cases h
      | ok nm s2 =>
        rw [h1] at h
        have k2 := (fullName_ok h1).1
        have w2 := (white_le s2).1
        simp only [Res.then] at h
        cases h2 : need (white s2).2 [61] with
        | bad n => rw [h2] at h; cases h
        | ok u s3 =>
          rw [h2] at h
          have k3 := (need_ok h2).1
          have w3 := (white_le s3).1
          simp only at h
          cases h3 : value f (white s3).2 with
          | bad n => rw [h3] at h; cases h
          | ok v s4 =>
            rw [h3] at h
            have k4 := (value_ok h3).1
            have k5 := value_size h3
            simp only at h
            refine attributes_size f h (by omega) (fun x hx => ?_)
            rcases List.mem_append.1 hx with hx | hx
            · exact hl x hx
            · have : x = (nm, v) := by simpa using hx
              subst this
              show v.length ≤ _
              omega
    · rw [attr_stop hg] at h
      split at h
      · injection h with h1 h2
        subst h1
        exact hl
      · cases h
theorem declare_sub : ∀ (l : List (B × B)) {s s' : St} {o o' : List (B × B)}, declare s l o = .ok o' s' → (∀ x ∈ o', x ∈ o ∨ x ∈ l) ∧ ∀ x ∈ s'.spaces, x ∈ s.spaces ∨ ∃ y ∈ l, x.2 = y.2
  | [], s, s', o, o', h => by
    injection h with h1 h2
    subst h1 h2
    exact ⟨fun x hx => .inl hx, fun x hx => .inl hx⟩
  | (n, v) :: r, s, s', o, o', h => by
    have mem : ∀ {x : B × B}, x ∈ r → x ∈ (n, v) :: r := fun hx => List.mem_cons_of_mem _ hx
    have push : ∀ {p : B} {s1 : St}, declare { s with spaces := s.spaces ++ [(p, v)] } r o = .ok o' s1 → (∀ x ∈ o', x ∈ o ∨ x ∈ (n, v) :: r) ∧ ∀ x ∈ s1.spaces, x ∈ s.spaces ∨ ∃ y ∈ (n, v) :: r, x.2 = y.2 := fun {p s1} h => by
      obtain ⟨a, b⟩ := declare_sub r h
      refine ⟨fun x hx => (a x hx).imp id mem, fun x hx => ?_⟩
      rcases b x hx with hb | ⟨y, hy, e⟩
      · rcases List.mem_append.1 hb with hb | hb
        · exact .inl hb
        · have : x = (p, v) := by simpa using hb
          exact .inr ⟨(n, v), List.mem_cons_self, by rw [this]⟩
      · exact .inr ⟨y, mem hy, e⟩
    by_cases h1 : (split n).1 = wXmlns
    · by_cases h2 : v ≠ [] ∧ (split n).2 ≠ wXml ∧ (split n).2 ≠ wXmlns
      · rw [decl_mark h1 h2] at h
        exact push h
      · rw [decl_mark_bad h1 h2] at h; cases h
    · by_cases h2 : n = wXmlns
      · rw [decl_plain h1 h2] at h
        exact push h
      · by_cases h3 : (split n).1 = []
        · rw [decl_other h1 h2 h3] at h
          obtain ⟨a, b⟩ := declare_sub r h
          refine ⟨fun x hx => ?_, fun x hx => (b x hx).imp id (fun ⟨y, hy, e⟩ => ⟨y, mem hy, e⟩)⟩
          rcases a x hx with ha | ha
          · rcases List.mem_append.1 ha with ha | ha
            · exact .inl ha
            · have : x = (n, v) := by simpa using ha
              exact .inr (this ▸ List.mem_cons_self)
          · exact .inr (mem ha)
        · rw [decl_other_bad h1 h2 h3] at h; cases h
theorem spaceOf_mem {l : List (B × B)} {p sp : B} (h : spaceOf l p = some sp) : ∃ x ∈ l, x.2 = sp := by
  unfold spaceOf at h
  cases hf : l.reverse.find? (fun x => decide (x.1 = p)) with
  | none => rw [hf] at h; cases h
  | some x =>
    rw [hf] at h
    have := List.mem_of_find?_eq_some hf
    exact ⟨x, List.mem_reverse.1 this, by simpa using h⟩
theorem SmNs_snoc : ∀ {l : List Nd} {d : Nd}, SmNs l → SmN d → SmNs (l ++ [d])
  | [], d, _, hd => by show SmNs [d]; unfold SmNs; exact ⟨hd, by unfold SmNs; trivial⟩
  | x :: l, d, hl, hd => by
    unfold SmNs at hl
    show SmNs (x :: (l ++ [d]))
    unfold SmNs
    exact ⟨hl.1, SmNs_snoc hl.2 hd⟩
theorem SmN_text {t : B} (h : t.length ≤ 4194304) : SmN (.mk t [] [] [] []) := by
  unfold SmN
  exact ⟨h, by simp, by simp, by simp, by simp, by simp, by unfold SmNs; trivial⟩
mutual
theorem element_sm : ∀ (f : Nat) {s s' : St} {n : Nd}, element f s = .ok n s' → s.rest.length ≤ 65536 → (∀ x ∈ s.spaces, x.2.length ≤ 262144) → SmN n
  | 0, s, s', n, h, _, _ => by rw [element] at h; cases h
  | f + 1, s, s', n, h, hr, hs => by
    rw [element_eq] at h
    cases h1 : need s [60] with
    | bad n => rw [h1] at h; cases h
    | ok u s1 =>
      rw [h1] at h
      have k1 := need_ok h1
      simp only [Res.then] at h
      cases h2 : fullName s1 with
      | bad n => rw [h2] at h; cases h
      | ok w s2 =>
        rw [h2] at h
        have k2 := fullName_ok h2
        have k2' := split_len w
        simp only at h
        cases h3 : attributes f s2 [] with
        | bad n => rw [h3] at h; cases h
        | ok l s3 =>
          rw [h3] at h
          have k3 := attributes_ok f h3
          have k3' := attributes_size f h3 (by omega) (by simp)
          have k3'' := k3.2.2 (by simp) (by omega)
          simp only at h
          cases h4 : declare s3 l [] with
          | bad n => rw [h4] at h; cases h
          | ok al s4 =>
            rw [h4] at h
            obtain ⟨k4, x, k5, k6⟩ := declare_ok l h4
            obtain ⟨k7, k8⟩ := declare_sub l h4
            simp only at h
            have s4s : ∀ x ∈ s4.spaces, x.2.length ≤ 262144 := fun x hx => by
              rcases k8 x hx with hx | ⟨y, hy, e⟩
              · rw [k3.2.1, k2.2.2, k1.2] at hx
                exact hs x hx
              · rw [e]; exact k3' y hy
            have als : ∀ x ∈ al, x.1.length ≤ 4194304 ∧ x.2.length ≤ 4194304 := fun x hx => by
              rcases k7 x hx with hx | hx
              · simp at hx
              · have a := k3'' x hx
                have b := k3' x hx
                exact ⟨by omega, by omega⟩
            simp only [List.length_singleton, List.length_nil] at k1 k3 k6
            unfold elem2 at h
            cases hs4 : spaceOf s4.spaces (split w).1 with
            | none => rw [hs4] at h; cases h
            | some sp =>
              rw [hs4] at h
              simp only at h
              obtain ⟨y, hy, rfl⟩ := spaceOf_mem hs4
              have spl := s4s y hy
              have r4 : s4.rest.length = s3.rest.length := by rw [k4]
              split at h
              · injection h with h _
                subst h
                unfold SmN
                exact ⟨by simp, by omega, by omega, by omega, als, by simp, by unfold SmNs; trivial⟩
              · cases h5 : need s4 [62] with
                | bad n => rw [h5] at h; cases h
                | ok u s5 =>
                  rw [h5] at h
                  have k9 := need_ok h5
                  simp only [Res.then] at h
                  cases h6 : content f s5 [] with
                  | bad n => rw [h6] at h; cases h
                  | ok ks s6 =>
                    rw [h6] at h
                    have k10 := content_sm f h6 (by omega) (fun x hx => s4s x (by rw [← k9.2]; exact hx)) (by unfold SmNs; trivial)
                    simp only [List.length_nil] at k10
                    simp only at h
                    cases h7 : need s6 ([60, 47] ++ w) with
                    | bad n => rw [h7] at h; cases h
                    | ok u s7 =>
                      rw [h7] at h
                      simp only at h
                      cases h8 : need (white s7).2 [62] with
                      | bad n => rw [h8] at h; cases h
                      | ok u s8 =>
                        rw [h8] at h
                        injection h with h _
                        subst h
                        unfold SmN
                        exact ⟨by simp, by omega, by omega, by omega, als, by omega, k10.1⟩
theorem content_sm : ∀ (f : Nat) {s s' : St} {l l' : List Nd}, content f s l = .ok l' s' → s.rest.length ≤ 65536 → (∀ x ∈ s.spaces, x.2.length ≤ 262144) → SmNs l → SmNs l' ∧ l'.length ≤ l.length + s.rest.length + 1
  | 0, s, s', l, l', h, _, _, _ => by rw [content] at h; cases h
  | f + 1, s, s', l, l', h, hr, hs, hl => by
    rw [content_eq] at h
    cases h1 : text f s [] with
    | bad n => rw [h1] at h; cases h
    | ok t s1 =>
      rw [h1] at h
      have k1 := text_ok f h1
      have k1' := text_size f h1
      simp only [List.length_nil] at k1'
      simp only [Res.then] at h
      have hl2 : SmNs (if t = [] then l else l ++ [.mk t [] [] [] []]) ∧ (if t = [] then l else l ++ [.mk t [] [] [] []]).length ≤ l.length + 1 := by
        split
        · exact ⟨hl, by omega⟩
        · exact ⟨SmNs_snoc hl (SmN_text (by omega)), by simp⟩
      split at h
      · injection h with h _
        subst h
        exact ⟨hl2.1, by omega⟩
      · cases h2 : element f s1 with
        | bad n => rw [h2] at h; cases h
        | ok n s2 =>
          rw [h2] at h
          have k2 := element_ok f h2
          have k3 := element_sm f h2 (by omega) (fun x hx => hs x (by rw [← k1.2]; exact hx))
          simp only at h
          have ih := content_sm f h (by omega) (fun x hx => hs x (by rw [← k1.2, ← k2.2]; exact hx)) (SmNs_snoc hl2.1 k3)
          rw [List.length_append, List.length_singleton] at ih
          exact ⟨ih.1, by omega⟩
end
theorem declaration_ok {s s' : St} {u : Unit} (h : declaration s = .ok u s') : s'.rest.length ≤ s.rest.length ∧ s'.spaces = s.spaces := by
  unfold declaration at h
  split at h
  · have k1 := skip_le s tXml
    have k2 := white_le (skip s tXml).2
    cases hu : upto (white (skip s tXml).2).2 tPiEnd with
    | bad n => rw [hu] at h; cases h
    | ok a s1 =>
      rw [hu] at h
      have k3 := upto_ok hu
      injection h with _ h
      subst h
      exact ⟨by omega, k3.2.trans (k2.2.trans k1.2)⟩
  · injection h with _ h
    subst h
    exact ⟨Nat.le_refl _, rfl⟩
theorem aside_ok : ∀ (f : Nat) {s s' : St} {u : Unit}, aside f s = .ok u s' → s'.rest.length ≤ s.rest.length ∧ s'.spaces = s.spaces
  | 0, s, s', u, h => by cases h
  | f + 1, s, s', u, h => by
    have k1 := white_le s
    rw [aside] at h
    split at h
    · have ih := aside_ok f h
      exact ⟨by omega, ih.2.trans k1.2⟩
    · cases hr : remark (white s).2 with
      | bad n => rw [hr] at h; cases h
      | ok b s1 =>
        rw [hr] at h
        have k2 := remark_ok hr
        simp only [Res.then] at h
        split at h
        · have ih := aside_ok f h
          exact ⟨by omega, ih.2.trans (k2.2.2.2.trans k1.2)⟩
        · injection h with _ h
          subst h
          exact ⟨by omega, k2.2.2.2.trans k1.2⟩
end Xml
end Go.Proofs.YteefjmdallpihaaGreatDoor

namespace Go.Proofs.YteefjmdallpihaaGreatDoor
open Go.RowKit Reply Go.Shelf

/-- What reading a whole text ends with. -/
def EndsR (B : Nat) (r : Xml.Res Xml.Nd) (e : Ending) (w' : World) : Prop := match r with
  | .bad n => e = .panicked [{ v := troubleX n, recovered := false }]
  | .ok d _ => ∃ m : NC, e = .returned m.val ∧ NdV w' (fun k => B ≤ k) d m
theorem EndsR.bad {B n : Nat} {r : Xml.Res Xml.Nd} {w' : World} (h : r = .bad n) : EndsR B r (.panicked [{ v := troubleX n, recovered := false }]) w' := by rw [h]; rfl
theorem EndsR.ok {B : Nat} {r : Xml.Res Xml.Nd} {w' : World} {d : Xml.Nd} {s : Xml.St} {v : Value} {m : NC} (h : r = .ok d s) (hv : v = m.val) (hn : NdV w' (fun k => B ≤ k) d m) : EndsR B r (.returned v) w' := by rw [h, hv]; exact ⟨m, rfl, hn⟩
/-- The world in which a node is laid in its place. -/
def laidW (w9 : World) (b : Nat) (u0 u1 u2 u3 u4 : Value) : World := ((((w9.setCell ⟨b, 0, none⟩ u0).setCell ⟨b, 1, none⟩ u1).setCell ⟨b, 2, none⟩ u2).setCell ⟨b, 3, none⟩ u3).setCell ⟨b, 4, none⟩ u4
theorem laid_end {w w9 : World} {cs : Array Value} (h : Below w.heap.size w w9) (ha : Held w9 w.heap.size 28 cs) (d : Xml.Nd) (m : NC) (hN : NdV w9 (fun k => w.heap.size < k) d m) (u0 u1 u2 u3 u4 : Value) (hc : cs.size = 5 := by rfl) :
    Below w.heap.size w (laidW w9 w.heap.size u0 u1 u2 u3 u4) ∧ Held (laidW w9 w.heap.size u0 u1 u2 u3 u4) w.heap.size 28 #[u0, u1, u2, u3, u4] ∧ NdV (laidW w9 w.heap.size u0 u1 u2 u3 u4) (fun k => w.heap.size ≤ k) d m := by
  have step : ∀ {wx : World} {i : Nat} {u : Value}, NdV wx (fun k => w.heap.size < k) d m → NdV (wx.setCell ⟨w.heap.size, i, none⟩ u) (fun k => w.heap.size < k) d m := fun {wx i u} hx => NdV.keep (KeepN.set (fun k hk => ⟨by omega, hk⟩)) d m hx
  have bel : ∀ {wx : World} {i : Nat} {u : Value}, Below w.heap.size w wx → Below w.heap.size w (wx.setCell ⟨w.heap.size, i, none⟩ u) := fun {wx i u} hx => hx.setCell (p := ⟨w.heap.size, i, none⟩) (Nat.le_refl _) u
  obtain ⟨c0, c1, c2, c3, c4, rfl⟩ : ∃ c0 c1 c2 c3 c4, cs = #[c0, c1, c2, c3, c4] := by
    obtain ⟨l⟩ := cs
    match l, hc with
    | [a, b, c, d, e], _ => exact ⟨a, b, c, d, e, rfl⟩
  exact ⟨bel (bel (bel (bel (bel h)))), ((((ha.set_ 0 u0).set_ 1 u1).set_ 2 u2).set_ 3 u3).set_ 4 u4, (step (step (step (step (step hN))))).mono (fun k hk => Nat.le_of_lt hk)⟩
section
variable {w0 w : World} {C p : Nat} {s : Xml.St}
theorem ElI.bel {b2 : Nat} {wr : World} (h : ElI w0 C w p b2 s wr) (h1 : w.heap.size ≤ C) (h2 : w.heap.size ≤ p) : Below w.heap.size w wr := h.fr.below (Nat.le_refl _) h1 h2
end
set_option maxRecDepth 100000 in
set_option maxHeartbeats 32000000 in
theorem readX_any (FO : FoldX) (NU : NumX) (IX : IdxX) (RU : RuneX) (w : World) (E0 : EnvX w) (l : Reply.B) (hl : l.length ≤ 4194304) :
    Calls Tryz.prog 15 #[.string (S l)] w fun e w' => Below w.heap.size w w' ∧ EndsR w.heap.size (Xml.parse l) e w' := by
  have HE := Lib.hid (elemX_all FO NU IX RU)
  have HF := Lib.hid FO
  have LS := S_size l
  obtain ⟨R, hR⟩ : ∃ x, x = Xml.parse l := ⟨_, rfl⟩
  rw [← hR]
  have E : Hid (R = if 65536 < l.length then .bad 5 else if Xml.letters l = false then .bad 30 else
    (Xml.declaration ⟨l, [([], [])]⟩).then fun _ s => (Xml.aside (l.length + 1) s).then fun _ s => (Xml.element (l.length + 1) s).then fun n s => (Xml.aside (l.length + 1) s).then fun _ s =>
      if s.rest ≠ [] then .bad 30 else if Xml.good n = false then .bad 31 else .ok n s) := hR
  have K1 : Below w.heap.size w (w.alloc (.cells #[.string ⟨#[]⟩, .string ⟨#[]⟩, .string ⟨#[]⟩, .slice none 0 0, .slice none 0 0] 28)) := (Below.refl _ _).alloc (Nat.le_refl _) _
  have A1 : Hid (Held (w.alloc (.cells #[.string ⟨#[]⟩, .string ⟨#[]⟩, .string ⟨#[]⟩, .slice none 0 0, .slice none 0 0] 28)) w.heap.size 28 #[.string ⟨#[]⟩, .string ⟨#[]⟩, .string ⟨#[]⟩, .slice none 0 0, .slice none 0 0]) := Held.new w _ _ rfl
  have LE := Lib.hid (lettersX_any _ (E0.below K1) l hl)
  have E0 := Lib.hid E0
  have K1 := Lib.hid K1
  clear hR FO NU IX RU
  by_cases h5 : l.length ≤ 65536
  · have z : decide (((S l).size : Int) ≤ 65536) = true := decide_eq_true (by rw [LS]; omega)
    rw [if_neg (by omega)] at E
    clear LS
    go_enter Tryz.func15, Tryz.ntmps15
    go_wp2_with fail
    refine (demand_ok _ _).mono ?_
    rintro e wx ⟨rfl, rfl⟩
    go_wp2_with fail
    refine LE.out.mono ?_
    rintro e w2 ⟨rfl, b2⟩
    have K2 := Lib.hid (K1.out.trans (b2.mono K1.out.size))
    have A2 := Lib.hid (Held.below A1.out b2 A1.out.lt)
    have L2 : Hid (w.heap.size < w2.heap.size) := A2.out.lt
    clear LE b2 A1 K1 z
    cases hq : Xml.letters l with
    | false =>
      rw [if_pos hq] at E
      clear hq
      go_wp2_with fail
      refine (demand_bad _ _).mono ?_
      rintro e wx ⟨rfl, rfl⟩
      exact ⟨rfl, K2.out, EndsR.bad E.out⟩
    | true =>
      rw [if_neg (by rw [hq]; simp)] at E
      clear hq
      go_wp2_with fail
      refine (demand_ok _ _).mono ?_
      rintro e wx ⟨rfl, rfl⟩
      obtain ⟨w3, hw3⟩ : ∃ x, x = (w2.alloc (.cells #[.string ⟨#[]⟩, .string ⟨#[]⟩] 53)).alloc (.cells #[.string (S l), .slice (some ⟨w2.heap.size, 0, none⟩) 1 1] 56) := ⟨_, rfl⟩
      have K3 : Below w2.heap.size w2 w3 := by rw [hw3]; exact ((Below.refl _ _).alloc (Nat.le_refl _) _).alloc (by simp) _
      have KW := K2.out.trans (K3.mono K2.out.size)
      have R3 : RdX w w2.heap.size w3 (w2.heap.size + 1) ⟨l, [([], [])]⟩ (some ⟨w2.heap.size, 0, none⟩) 1 := by
        refine ⟨E0.out, by have := L2.out; omega, Nat.le_of_lt L2.out, KW, by rw [hw3]; simp; omega, ?_, rfl, .inr ⟨w2.heap.size, 1, #[.string ⟨#[]⟩, .string ⟨#[]⟩], rfl, Nat.le_refl _, ?_, Nat.le_refl _, by decide, rfl, rfl⟩⟩
        · rw [hw3]
          exact Held.new _ _ _ (by simp)
        · rw [hw3]
          exact Held.alloc (Held.new w2 53 #[.string ⟨#[]⟩, .string ⟨#[]⟩] rfl) _
      have T3 : Hid (ElI w w2.heap.size w (w2.heap.size + 1) w.heap.size ⟨l, [([], [])]⟩ w3) := ⟨⟨_, _, R3⟩, FrX.under KW, Nat.le_refl _, Held.below A2.out K3 A2.out.lt⟩
      have R3 := Lib.hid R3
      have HW3 := Lib.hid hw3
      obtain ⟨p, hp⟩ : ∃ x, x = w2.heap.size + 1 := ⟨_, rfl⟩
      obtain ⟨C, hC⟩ : ∃ x, x = w2.heap.size := ⟨_, rfl⟩
      have LP : Hid (w.heap.size ≤ p) := by rw [hp]; have := L2.out; show _ ≤ _; omega
      have LC : Hid (w.heap.size ≤ C) := by rw [hC]; have := L2.out; show _ ≤ _; omega
      rw [← hp] at R3 T3
      have HP := Lib.hid hp
      have R3 : Hid (RdX w C w3 p ⟨l, [([], [])]⟩ (some ⟨w2.heap.size, 0, none⟩) 1) := by rw [hC]; exact R3.out
      have T3 : Hid (ElI w C w p w.heap.size ⟨l, [([], [])]⟩ w3) := by rw [hC]; exact T3.out
      have DE := Lib.hid (declX_any R3.out h5)
      clear K3 KW K2 A2 hw3 hp hC
      go_upto_region 4 with fail
      rw [← HW3.out, ← HP.out]
      go_wp2_with fail
      refine DE.out.mono ?_
      rintro e w4 ⟨f4, X4⟩
      have G4 := Lib.hid f4
      clear f4 DE HW3 HP
      cases hu : Xml.declaration ⟨l, [([], [])]⟩ with
      | bad n =>
        rw [hu] at X4 E
        obtain rfl := X4
        exact ⟨rfl, (T3.out.fr.trans G4.out).below (Nat.le_refl _) LC.out LP.out, EndsR.bad E.out⟩
      | ok u4 s4 =>
        rw [hu] at X4 E
        obtain ⟨rfl, r4⟩ := X4
        have k4a : s4.rest.length ≤ l.length := (Xml.declaration_ok hu).1
        have SP4 : Hid (s4.spaces = [([], [])]) := (Xml.declaration_ok hu).2
        have T4 := Lib.hid (T3.out.read r4 G4.out)
        have R4 := Lib.hid r4
        have E : Hid (R = (Xml.aside (l.length + 1) s4).then fun _ s => (Xml.element (l.length + 1) s).then fun n s => (Xml.aside (l.length + 1) s).then fun _ s =>
          if s.rest ≠ [] then .bad 30 else if Xml.good n = false then .bad 31 else .ok n s) := E.out
        have AS := Lib.hid (asideX_any HF.out R4.out (by omega) (l.length + 1) (by omega))
        clear r4 G4 hu T3 R3
        go_wp2_with fail
        refine AS.out.mono ?_
        rintro e w5 ⟨f5, X5⟩
        have G5 := Lib.hid f5
        clear f5 AS
        cases hu : Xml.aside (l.length + 1) s4 with
        | bad n =>
          rw [hu] at X5 E
          obtain rfl := X5
          exact ⟨rfl, (T4.out.fr.trans G5.out).below (Nat.le_refl _) LC.out LP.out, EndsR.bad E.out⟩
        | ok u5 s5 =>
          rw [hu] at X5 E
          obtain ⟨rfl, r5⟩ := X5
          have k5a := (Xml.aside_ok (l.length + 1) hu).1
          have T5 := Lib.hid (T4.out.read r5 G5.out)
          have R5 := Lib.hid r5
          have E : Hid (R = (Xml.element (l.length + 1) s5).then fun n s => (Xml.aside (l.length + 1) s).then fun _ s =>
            if s.rest ≠ [] then .bad 30 else if Xml.good n = false then .bad 31 else .ok n s) := E.out
          have SP5 : Hid (s5.spaces = [([], [])]) := (Xml.aside_ok (l.length + 1) hu).2.trans SP4.out
          have z5 : s5.spaces.length = 1 := by rw [SP5.out]; rfl
          have EL := Lib.hid (HE.out (l.length + 1) w w5 C p s5 _ _ R5.out ⟨by omega, by omega⟩ (by omega))
          clear r5 G5 hu T4 R4 SP4
          go_wp2_with fail
          refine EL.out.mono ?_
          rintro e w6 ⟨f6, X6⟩
          have G6 := Lib.hid f6
          clear f6 EL
          cases hu : Xml.element (l.length + 1) s5 with
          | bad n =>
            rw [hu] at X6 E
            obtain rfl := X6
            exact ⟨rfl, (T5.out.fr.trans G6.out).below (Nat.le_refl _) LC.out LP.out, EndsR.bad E.out⟩
          | ok nd s6 =>
            rw [hu] at X6 E
            obtain ⟨m6, X6, nv6, A6, c6, r6⟩ := X6
            have k6 := Xml.element_ok (l.length + 1) hu
            have SM := Lib.hid (Xml.element_sm (l.length + 1) hu (by omega) (fun x hx => by
              rw [SP5.out] at hx
              have : x = ([], []) := by simpa using hx
              subst this
              simp))
            have E : Hid (R = (Xml.aside (l.length + 1) s6).then fun _ s =>
              if s.rest ≠ [] then .bad 30 else if Xml.good nd = false then .bad 31 else .ok nd s) := E.out
            have L5 : w.heap.size < w5.heap.size := T5.out.ans.lt
            have N6 := Lib.hid (nv6.mono (Q := fun k => w.heap.size < k) (fun k hk => Nat.lt_of_lt_of_le L5 hk))
            obtain ⟨t, sp, nm, al, ks⟩ := nd
            obtain ⟨Aa, ca, Ak, ck, l6, rfl, _, _, _, _, _⟩ := nv6.parts
            have X6 : e = .returned (.agg #[.string (S t), .string (S sp), .string (S nm), .slice Aa al.length ca, .slice Ak l6.length ck]) := X6
            subst X6
            obtain ⟨nd, hnd⟩ : ∃ x, x = Xml.Nd.mk t sp nm al ks := ⟨_, rfl⟩
            rw [← hnd] at SM N6 E
            generalize al.length = na at *
            generalize l6.length = nk at *
            have T6 := Lib.hid (T5.out.read r6 G6.out)
            have R6 := Lib.hid r6
            clear r6 G6 hu T5 R5 nv6 L5 hnd
            have K7 : Below w6.heap.size w6 (w6.alloc (.cells #[.string (S t), .string (S sp), .string (S nm), .slice Aa na ca, .slice Ak nk ck] 28)) := (Below.refl _ _).alloc (Nat.le_refl _) _
            have T7 := Lib.hid (T6.out.under K7)
            have R7 := Lib.hid (R6.out.under K7)
            have N7 := Lib.hid (NdV.keep (KeepN.below K7 (fun _ h => h)) _ _ N6.out)
            have H7 : Hid (Held (w6.alloc (.cells #[.string (S t), .string (S sp), .string (S nm), .slice Aa na ca, .slice Ak nk ck] 28)) w6.heap.size 28 #[.string (S t), .string (S sp), .string (S nm), .slice Aa na ca, .slice Ak nk ck]) := Held.new w6 _ _ rfl
            have AS := Lib.hid (asideX_any HF.out R7.out (by omega) (l.length + 1) (by omega))
            have L6 : Hid (w.heap.size < w6.heap.size) := T6.out.ans.lt
            clear K7 T6 R6 N6
            go_wp2_with fail
            refine AS.out.mono ?_
            rintro e w8 ⟨f8, X8⟩
            have G8 := Lib.hid f8
            clear f8 AS
            cases hu : Xml.aside (l.length + 1) s6 with
            | bad n =>
              rw [hu] at X8 E
              obtain rfl := X8
              exact ⟨rfl, (T7.out.fr.trans G8.out).below (Nat.le_refl _) LC.out LP.out, EndsR.bad E.out⟩
            | ok u8 s8 =>
              rw [hu] at X8 E
              obtain ⟨rfl, r8⟩ := X8
              have T8 := Lib.hid (T7.out.read r8 G8.out)
              have R8 := Lib.hid r8
              have N8 := Lib.hid (NdV.keep (G8.out.keepN R7.out.blk (fun _ h => h)) _ _ N7.out)
              have H8 := Lib.hid (G8.out.held H7.out (Held.ne_ H7.out R7.out.blk (by decide)) (by decide))
              have E : Hid (R = if s8.rest ≠ [] then .bad 30 else if Xml.good nd = false then .bad 31 else .ok nd s8) := E.out
              clear r8 G8 hu T7 R7 N7 H7
              have q0 : w8.cell? ⟨p, 0, none⟩ = some (.string (S s8.rest)) := R8.out.blk.cell 0
              have em : (S s8.rest).toList.isEmpty = decide (s8.rest = []) := emptyX s8.rest
              by_cases hz : s8.rest = []
              · rw [if_neg (fun h => h hz)] at E
                rw [decide_eq_true hz] at em
                clear hz
                have GD := Lib.hid (goodX_any w8 R8.out.envw nd _ SM.out (N8.out.mono (fun _ _ => trivial)))
                have GD : Hid (Calls Tryz.prog 29 #[.agg #[.string (S t), .string (S sp), .string (S nm), .slice Aa na ca, .slice Ak nk ck]] w8 fun e w' => e = .returned (.bool (Xml.good nd)) ∧ Below w8.heap.size w8 w') := GD.out
                have d0 : w8.cell? ⟨w6.heap.size, 0, none⟩ = some (.string (S t)) := H8.out.cell 0
                have d1 : w8.cell? ⟨w6.heap.size, 1, none⟩ = some (.string (S sp)) := H8.out.cell 1
                have d2 : w8.cell? ⟨w6.heap.size, 2, none⟩ = some (.string (S nm)) := H8.out.cell 2
                have d3 : w8.cell? ⟨w6.heap.size, 3, none⟩ = some (.slice Aa na ca) := H8.out.cell 3
                have d4 : w8.cell? ⟨w6.heap.size, 4, none⟩ = some (.slice Ak nk ck) := H8.out.cell 4
                go_wp2_with fail
                refine (demand_ok _ _).mono ?_
                rintro e wx ⟨rfl, rfl⟩
                go_wp2_with fail
                refine GD.out.mono ?_
                rintro e w9 ⟨rfl, b9⟩
                have T9 := Lib.hid (T8.out.under b9)
                have N9 := Lib.hid (NdV.keep (KeepN.below b9 (fun _ h => h)) _ _ N8.out)
                have H9 := Lib.hid (Held.below H8.out b9 H8.out.lt)
                clear b9 GD T8 R8 N8 H8 d0 d1 d2 d3 d4 q0 em
                cases hg : Xml.good nd with
                | false =>
                  rw [if_pos hg] at E
                  clear hg
                  go_wp2_with fail
                  refine (demand_bad _ _).mono ?_
                  rintro e wx ⟨rfl, rfl⟩
                  exact ⟨rfl, T9.out.fr.below (Nat.le_refl _) LC.out LP.out, EndsR.bad E.out⟩
                | true =>
                  rw [if_neg (by rw [hg]; simp)] at E
                  clear hg
                  have EN : Hid (∀ u0 u1 u2 u3 u4, Below w.heap.size w (laidW w9 w.heap.size u0 u1 u2 u3 u4) ∧ Held (laidW w9 w.heap.size u0 u1 u2 u3 u4) w.heap.size 28 #[u0, u1, u2, u3, u4] ∧ NdV (laidW w9 w.heap.size u0 u1 u2 u3 u4) (fun k => w.heap.size ≤ k) nd _) := fun u0 u1 u2 u3 u4 => laid_end (T9.out.fr.below (Nat.le_refl _) LC.out LP.out) T9.out.ans nd _ N9.out u0 u1 u2 u3 u4
                  have d0 : w9.cell? ⟨w6.heap.size, 0, none⟩ = some (.string (S t)) := H9.out.cell 0
                  have d1 : w9.cell? ⟨w6.heap.size, 1, none⟩ = some (.string (S sp)) := H9.out.cell 1
                  have d2 : w9.cell? ⟨w6.heap.size, 2, none⟩ = some (.string (S nm)) := H9.out.cell 2
                  have d3 : w9.cell? ⟨w6.heap.size, 3, none⟩ = some (.slice Aa na ca) := H9.out.cell 3
                  have d4 : w9.cell? ⟨w6.heap.size, 4, none⟩ = some (.slice Ak nk ck) := H9.out.cell 4
                  have i0 : w9.cell? ⟨w.heap.size, 0, none⟩ = some (.string ⟨#[]⟩) := T9.out.ans.cell 0
                  have y0 : w9.frozen? ⟨w.heap.size, 0, none⟩ = false := T9.out.ans.frozen 0
                  have i1 : w9.cell? ⟨w.heap.size, 1, none⟩ = some (.string ⟨#[]⟩) := T9.out.ans.cell 1
                  have y1 : w9.frozen? ⟨w.heap.size, 1, none⟩ = false := T9.out.ans.frozen 1
                  have i2 : w9.cell? ⟨w.heap.size, 2, none⟩ = some (.string ⟨#[]⟩) := T9.out.ans.cell 2
                  have y2 : w9.frozen? ⟨w.heap.size, 2, none⟩ = false := T9.out.ans.frozen 2
                  have i3 : w9.cell? ⟨w.heap.size, 3, none⟩ = some (.slice none 0 0) := T9.out.ans.cell 3
                  have y3 : w9.frozen? ⟨w.heap.size, 3, none⟩ = false := T9.out.ans.frozen 3
                  have i4 : w9.cell? ⟨w.heap.size, 4, none⟩ = some (.slice none 0 0) := T9.out.ans.cell 4
                  have y4 : w9.frozen? ⟨w.heap.size, 4, none⟩ = false := T9.out.ans.frozen 4
                  clear T9 N9 H9
                  go_wp2_with fail
                  refine (demand_ok _ _).mono ?_
                  rintro e wx ⟨rfl, rfl⟩
                  go_wp2_with fail
                  refine bodyPost_ret (resX _ _ 2 28 _ _ Tryz.results15 rfl (load_nd (EN.out _ _ _ _ _).2.1 rfl)) rfl ⟨(EN.out _ _ _ _ _).1, EndsR.ok E.out rfl (EN.out _ _ _ _ _).2.2⟩
              · rw [if_pos hz] at E
                rw [decide_eq_false hz] at em
                clear hz
                go_wp2_with fail
                refine (demand_bad _ _).mono ?_
                rintro e wx ⟨rfl, rfl⟩
                exact ⟨rfl, T8.out.fr.below (Nat.le_refl _) LC.out LP.out, EndsR.bad E.out⟩
  · have z : decide (((S l).size : Int) ≤ 65536) = false := decide_eq_false (by rw [LS]; omega)
    rw [if_pos (by omega)] at E
    clear LS
    go_enter Tryz.func15, Tryz.ntmps15
    go_wp2_with fail
    refine (demand_bad _ _).mono ?_
    rintro e wx ⟨rfl, rfl⟩
    exact ⟨rfl, K1.out, EndsR.bad E.out⟩
end Go.Proofs.YteefjmdallpihaaGreatDoor

namespace Go.Proofs.YteefjmdallpihaaGreatDoor
open Go.RowKit Reply Go.Shelf

theorem res_cell_tmpX {P : Program} {f : Func} (tm : Array Value) (w : World) (i j T : Nat) (x v : Value) (p : Addr) (hf : f.results = #[.cell j T, .tmp i]) (h2 : tm.getD i undef = x) (h3 : tm.getD j undef = .pointer (some p)) (lv : (loadVar T p).run P w = .ok v w) :
    (results f tm).run P w = .ok (.tuple #[v, x]) w := by
  unfold results
  rw [hf]
  rw [Array.getD_eq_getD_getElem?] at h2 h3
  simp [h2, h3, asAddr, lv]
def zeroN : Array Value := #[.string ⟨#[]⟩, .string ⟨#[]⟩, .string ⟨#[]⟩, .slice none 0 0, .slice none 0 0]
/-- The world in which a node is laid in block b. -/
theorem laid_at {W w1 : World} {b : Nat} {cs : Array Value} (h : Only [b] W w1) (ha : Held w1 b 28 cs) (hc : cs.size = 5) (d : Xml.Nd) (m : NC) (P : Nat → Prop) (hP : ∀ k, P k → k ≠ b) (hN : NdV w1 P d m) (u0 u1 u2 u3 u4 : Value) :
    Only [b] W (laidW w1 b u0 u1 u2 u3 u4) ∧ Held (laidW w1 b u0 u1 u2 u3 u4) b 28 #[u0, u1, u2, u3, u4] ∧ NdV (laidW w1 b u0 u1 u2 u3 u4) P d m := by
  have step : ∀ {wx : World} {i : Nat} {u : Value}, NdV wx P d m → NdV (wx.setCell ⟨b, i, none⟩ u) P d m := fun {wx i u} hx => NdV.keep (KeepN.set (fun k hk => ⟨hP k hk, hk⟩)) d m hx
  have bel : ∀ {wx : World} {i : Nat} {u : Value}, Only [b] W wx → Only [b] W (wx.setCell ⟨b, i, none⟩ u) := fun {wx i u} hx => hx.setCell (p := ⟨b, i, none⟩) (.inl (by simp)) u
  obtain ⟨c0, c1, c2, c3, c4, rfl⟩ : ∃ c0 c1 c2 c3 c4, cs = #[c0, c1, c2, c3, c4] := by
    obtain ⟨l⟩ := cs
    match l, hc with
    | [a, b, c, d, e], _ => exact ⟨a, b, c, d, e, rfl⟩
  exact ⟨bel (bel (bel (bel (bel h)))), ((((ha.set_ 0 u0).set_ 1 u1).set_ 2 u2).set_ 3 u3).set_ 4 u4, step (step (step (step (step hN))))⟩
theorem laid_at0 {w1 : World} {b : Nat} {cs : Array Value} (ha : Held w1 b 28 cs) (hc : cs.size = 5) (u0 u1 u2 u3 u4 : Value) : Only [b] w1 (laidW w1 b u0 u1 u2 u3 u4) ∧ Held (laidW w1 b u0 u1 u2 u3 u4) b 28 #[u0, u1, u2, u3, u4] := by
  have bel : ∀ {wx : World} {i : Nat} {u : Value}, Only [b] w1 wx → Only [b] w1 (wx.setCell ⟨b, i, none⟩ u) := fun {wx i u} hx => hx.setCell (p := ⟨b, i, none⟩) (.inl (by simp)) u
  obtain ⟨c0, c1, c2, c3, c4, rfl⟩ : ∃ c0 c1 c2 c3 c4, cs = #[c0, c1, c2, c3, c4] := by
    obtain ⟨l⟩ := cs
    match l, hc with
    | [a, b, c, d, e], _ => exact ⟨a, b, c, d, e, rfl⟩
  exact ⟨bel (bel (bel (bel (bel (Only.refl _ _))))), ((((ha.set_ 0 u0).set_ 1 u1).set_ 2 u2).set_ 3 u3).set_ 4 u4⟩
/-- What the inner function of Parse ends with. -/
def EndsI (R : Xml.Res Xml.Nd) (W : World) (b : Nat) (e : Ending) (w2 : World) : Prop :=
  (∃ nd s m, R = .ok nd s ∧ e = .returned (.tuple #[]) ∧ NdV w2 (fun k => W.heap.size ≤ k) nd m ∧ Held w2 b 28 #[.string (S m.text), .string (S m.space), .string (S m.name), m.attrs, m.kids] ∧ Only [b] W w2) ∨
  (∃ n : Nat, R = .bad n ∧ e = .panicked [{ v := troubleX n, recovered := false }] ∧ Below W.heap.size W w2)
set_option maxRecDepth 100000 in
set_option maxHeartbeats 4000000 in
theorem parse1X_any (FO : FoldX) (NU : NumX) (IX : IdxX) (RU : RuneX) (W : World) (E0 : EnvX W) (l : Reply.B) (hl : l.length ≤ 4194304) (q b : Nat) (hq : Held W q 9 #[.string (S l)]) (hb : Held W b 28 #[.string ⟨#[]⟩, .string ⟨#[]⟩, .string ⟨#[]⟩, .slice none 0 0, .slice none 0 0]) :
    Calls Tryz.prog 14 #[.pointer (some ⟨q, 0, none⟩), .pointer (some ⟨b, 0, none⟩)] W fun e w2 => EndsI (Xml.parse l) W b e w2 := by
  have RD := Lib.hid (readX_any FO NU IX RU W E0 l hl)
  obtain ⟨R, hR⟩ : ∃ x, x = Xml.parse l := ⟨_, rfl⟩
  rw [← hR] at RD ⊢
  have q0 : W.cell? ⟨q, 0, none⟩ = some (.string (S l)) := hq.cell 0
  have HB := Lib.hid hb
  clear FO NU IX RU E0 hR hq hb
  go_enter Tryz.func14, Tryz.ntmps14
  go_wp2_with fail
  refine RD.out.mono ?_
  rintro e w1 ⟨b1, X1⟩
  have B1 := Lib.hid b1
  clear b1 RD
  cases hu : R with
  | bad n =>
    rw [hu] at X1
    obtain rfl := X1
    exact ⟨rfl, .inr ⟨n, hu, rfl, B1.out⟩⟩
  | ok nd s =>
    rw [hu] at X1
    obtain ⟨m, X1, nv⟩ := X1
    obtain ⟨t, sp, nm, al, ks⟩ := nd
    obtain ⟨Aa, ca, Ak, ck, l6, rfl, _, _, _, _, _⟩ := nv.parts
    have X1 : e = .returned (.agg #[.string (S t), .string (S sp), .string (S nm), .slice Aa al.length ca, .slice Ak l6.length ck]) := X1
    subst X1
    have NV := Lib.hid nv
    obtain ⟨nd, hnd⟩ : ∃ x, x = Xml.Nd.mk t sp nm al ks := ⟨_, rfl⟩
    rw [← hnd] at NV hu
    have HU := Lib.hid hu
    generalize al.length = na at *
    generalize l6.length = nk at *
    have H1 := Lib.hid (Held.below HB.out B1.out HB.out.lt)
    have LB : Hid (b < W.heap.size) := HB.out.lt
    have i0 : w1.cell? ⟨b, 0, none⟩ = some (.string ⟨#[]⟩) := H1.out.cell 0
    have i1 : w1.cell? ⟨b, 1, none⟩ = some (.string ⟨#[]⟩) := H1.out.cell 1
    have i2 : w1.cell? ⟨b, 2, none⟩ = some (.string ⟨#[]⟩) := H1.out.cell 2
    have i3 : w1.cell? ⟨b, 3, none⟩ = some (.slice none 0 0) := H1.out.cell 3
    have i4 : w1.cell? ⟨b, 4, none⟩ = some (.slice none 0 0) := H1.out.cell 4
    have y0 : w1.frozen? ⟨b, 0, none⟩ = false := H1.out.frozen 0
    have y1 : w1.frozen? ⟨b, 1, none⟩ = false := H1.out.frozen 1
    have y2 : w1.frozen? ⟨b, 2, none⟩ = false := H1.out.frozen 2
    have y3 : w1.frozen? ⟨b, 3, none⟩ = false := H1.out.frozen 3
    have y4 : w1.frozen? ⟨b, 4, none⟩ = false := H1.out.frozen 4
    have EN : Hid (∀ u0 u1 u2 u3 u4, Only [b] W (laidW w1 b u0 u1 u2 u3 u4) ∧ Held (laidW w1 b u0 u1 u2 u3 u4) b 28 #[u0, u1, u2, u3, u4] ∧ NdV (laidW w1 b u0 u1 u2 u3 u4) (fun k => W.heap.size ≤ k) nd _) := fun u0 u1 u2 u3 u4 => laid_at (Only.of_below B1.out) H1.out rfl nd _ _ (fun k hk e => by have := LB.out; have hk : W.heap.size ≤ k := hk; omega) NV.out u0 u1 u2 u3 u4
    clear H1 NV nv HB hnd hu
    go_wp2_with fail
    refine bodyPost_ret (results_none rfl _ _ _) rfl (.inl ⟨nd, s, _, HU.out, rfl, (EN.out _ _ _ _ _).2.2, (EN.out _ _ _ _ _).2.1, (EN.out _ _ _ _ _).1⟩)
/-- What Parse ends with. -/
def EndsP (B : Nat) (R : Xml.Res Xml.Nd) (e : Ending) (w' : World) : Prop := match R with
  | .bad n => e = .returned (.tuple #[.agg #[.string ⟨#[]⟩, .string ⟨#[]⟩, .string ⟨#[]⟩, .slice none 0 0, .slice none 0 0], .int .i64 (n : Int)])
  | .ok d _ => ∃ m : NC, e = .returned (.tuple #[m.val, .int .i64 0]) ∧ NdV w' (fun k => B ≤ k) d m
set_option maxRecDepth 100000 in
set_option maxHeartbeats 8000000 in
theorem parseX_any (FO : FoldX) (NU : NumX) (IX : IdxX) (RU : RuneX) (w : World) (E0 : EnvX w) (l : Reply.B) (hl : l.length ≤ 4194304) :
    Calls Tryz.prog 8 #[.string (S l)] w fun e w' => Below w.heap.size w w' ∧ EndsP w.heap.size (Xml.parse l) e w' := by
  obtain ⟨W, hW⟩ : ∃ x, x = (w.alloc (.cells #[.string (S l)] 9)).alloc (.cells #[.string ⟨#[]⟩, .string ⟨#[]⟩, .string ⟨#[]⟩, .slice none 0 0, .slice none 0 0] 28) := ⟨_, rfl⟩
  obtain ⟨W2, hW2⟩ : ∃ x, x = W.alloc (.cells #[.int .i64 0] 29) := ⟨_, rfl⟩
  have ws : W.heap.size = w.heap.size + 2 := by rw [hW]; simp
  have K1 : Below w.heap.size w W := by rw [hW]; exact ((Below.refl _ _).alloc (Nat.le_refl _) _).alloc (by simp) _
  have K2 : Below W.heap.size W W2 := by rw [hW2]; exact (Below.refl _ _).alloc (Nat.le_refl _) _
  have q2 : Held W2 w.heap.size 9 #[.string (S l)] := by rw [hW2, hW]; exact ((Held.new w _ _ rfl).alloc _).alloc _
  have b2 : Held W2 (w.heap.size + 1) 28 #[.string ⟨#[]⟩, .string ⟨#[]⟩, .string ⟨#[]⟩, .slice none 0 0, .slice none 0 0] := by rw [hW2, hW]; exact (Held.new _ _ _ (by simp)).alloc _
  have e2 : Held W2 W.heap.size 29 #[.int .i64 0] := by rw [hW2]; exact Held.new _ _ _ rfl
  have w2s : W2.heap.size = w.heap.size + 3 := by rw [hW2]; simp [ws]
  have KW := K1.trans (K2.mono K1.size)
  have P1 := parse1X_any FO NU IX RU W2 (E0.below KW) l hl w.heap.size (w.heap.size + 1) q2 b2
  obtain ⟨R, hR⟩ : ∃ x, x = Xml.parse l := ⟨_, rfl⟩
  rw [← hR] at P1 ⊢
  have AT := attemptX_any 14 #[.pointer (some ⟨w.heap.size, 0, none⟩), .pointer (some ⟨w.heap.size + 1, 0, none⟩)] W
    (fun w2 => ∃ nd s m, R = .ok nd s ∧ NdV w2 (fun k => w.heap.size + 3 ≤ k) nd m ∧ Held w2 (w.heap.size + 1) 28 #[.string (S m.text), .string (S m.space), .string (S m.name), m.attrs, m.kids] ∧ Below w.heap.size w w2)
    (fun err w2 => ∃ n : Nat, err = (n : Int) ∧ R = .bad n ∧ Held w2 (w.heap.size + 1) 28 #[.string ⟨#[]⟩, .string ⟨#[]⟩, .string ⟨#[]⟩, .slice none 0 0, .slice none 0 0] ∧ Below w.heap.size w w2) (fun _ => rfl) (by
      rw [← hW2]
      refine P1.mono ?_
      rintro e w2 (⟨nd, s, m, h1, rfl, h3, h4, h5⟩ | ⟨n, h1, rfl, h3⟩)
      · refine ⟨e2.only h5 (by simp; omega), .inl ⟨rfl, nd, s, m, h1, by rw [w2s] at h3; exact h3, h4, h5.from_ KW (fun x hx => by
          have : x = w.heap.size + 1 := by simpa using hx
          omega)⟩⟩
      · exact ⟨Held.below e2 h3 e2.lt, .inr ⟨(n : Int), rfl, n, rfl, h1, Held.below b2 h3 b2.lt, KW.trans (h3.mono KW.size)⟩⟩)
  have AT := Lib.hid AT
  have hmf : ∀ (fn : Fn) (first cap : Array Value) (w : World), (Instr.makeFunc fn first cap).run Tryz.prog w = .ok (.func fn first cap) w := fun _ _ _ _ => rfl
  have HW := Lib.hid hW
  have WS := Lib.hid ws
  rw [hW] at AT
  clear P1 KW w2s e2 b2 q2 K2 K1 ws hW hW2 hR FO NU IX RU E0
  go_enter Tryz.func8, Tryz.ntmps8
  go_wp2_with fail
  refine AT.out.mono ?_
  rintro e w3 ⟨w2, ⟨⟨nd, s, m, h1, h2, h3, h4⟩, rfl, hw3⟩ | ⟨err, o, ⟨n, rfl, h1, h2, h3⟩, rfl, hw3⟩⟩
  · rw [← HW.out, WS.out] at hw3
    have HU := Lib.hid h1
    obtain ⟨t, sp, nm, al, ks⟩ := nd
    obtain ⟨Aa, ca, Ak, ck, l6, rfl, _, _, _, _, _⟩ := h2.parts
    have h3 : Held w2 (w.heap.size + 1) 28 #[.string (S t), .string (S sp), .string (S nm), .slice Aa al.length ca, .slice Ak l6.length ck] := h3
    obtain ⟨nd, hnd⟩ : ∃ x, x = Xml.Nd.mk t sp nm al ks := ⟨_, rfl⟩
    rw [← hnd] at h2 HU
    generalize al.length = na at *
    generalize l6.length = nk at *
    have N3 : Hid (NdV w3 (fun k => w.heap.size + 3 ≤ k) nd ⟨t, sp, nm, .slice Aa na ca, .slice Ak nk ck⟩) := by
      show NdV _ _ _ _
      rw [hw3]
      exact NdV.keep (KeepN.set (fun k hk => ⟨by have hk : w.heap.size + 3 ≤ k := hk; omega, hk⟩)) _ _ h2
    have H3 : Hid (Held w3 (w.heap.size + 1) 28 #[.string (S t), .string (S sp), .string (S nm), .slice Aa na ca, .slice Ak nk ck]) := by rw [hw3]; exact h3.far (p := ⟨w.heap.size + 2, 0, none⟩) (by show w.heap.size + 1 ≠ w.heap.size + 2; omega) _
    have K3 : Hid (Below w.heap.size w w3) := by rw [hw3]; exact h4.setCell (p := ⟨w.heap.size + 2, 0, none⟩) (by show w.heap.size ≤ w.heap.size + 2; omega) _
    have i0 : w3.cell? ⟨w.heap.size + 1, 0, none⟩ = some (.string (S t)) := H3.out.cell 0
    have y0 : w3.frozen? ⟨w.heap.size + 1, 0, none⟩ = false := H3.out.frozen 0
    have i1 : w3.cell? ⟨w.heap.size + 1, 1, none⟩ = some (.string (S sp)) := H3.out.cell 1
    have y1 : w3.frozen? ⟨w.heap.size + 1, 1, none⟩ = false := H3.out.frozen 1
    have i2 : w3.cell? ⟨w.heap.size + 1, 2, none⟩ = some (.string (S nm)) := H3.out.cell 2
    have y2 : w3.frozen? ⟨w.heap.size + 1, 2, none⟩ = false := H3.out.frozen 2
    have i3 : w3.cell? ⟨w.heap.size + 1, 3, none⟩ = some (.slice Aa na ca) := H3.out.cell 3
    have y3 : w3.frozen? ⟨w.heap.size + 1, 3, none⟩ = false := H3.out.frozen 3
    have i4 : w3.cell? ⟨w.heap.size + 1, 4, none⟩ = some (.slice Ak nk ck) := H3.out.cell 4
    have y4 : w3.frozen? ⟨w.heap.size + 1, 4, none⟩ = false := H3.out.frozen 4
    clear hw3 h1 h2 h3 h4 hnd
    have EN : Hid (∀ u0 u1 u2 u3 u4, Only [w.heap.size + 1] w3 (laidW w3 (w.heap.size + 1) u0 u1 u2 u3 u4) ∧ Held (laidW w3 (w.heap.size + 1) u0 u1 u2 u3 u4) (w.heap.size + 1) 28 #[u0, u1, u2, u3, u4] ∧ NdV (laidW w3 (w.heap.size + 1) u0 u1 u2 u3 u4) (fun k => w.heap.size + 3 ≤ k) nd _) := fun u0 u1 u2 u3 u4 => laid_at (Only.refl _ _) H3.out rfl nd _ _ (fun k hk e => by have hk : w.heap.size + 3 ≤ k := hk; omega) N3.out u0 u1 u2 u3 u4
    clear AT HW WS H3 N3
    go_wp2_with fail
    refine bodyPost_ret (res_cell_tmpX _ _ 3 2 28 (.int .i64 0) _ _ Tryz.results8 rfl rfl (load_nd (EN.out _ _ _ _ _).2.1 rfl)) rfl ⟨(EN.out _ _ _ _ _).1.from_ K3.out (fun x hx => by
      have : x = w.heap.size + 1 := by simpa using hx
      omega), ?_⟩
    rw [HU.out]
    exact ⟨_, rfl, (EN.out _ _ _ _ _).2.2.mono (fun k hk => by have hk : w.heap.size + 3 ≤ k := hk; show _ ≤ k; omega)⟩
  · rw [← HW.out, WS.out] at hw3
    have HU := Lib.hid h1
    have H3 : Hid (Held w3 (w.heap.size + 1) 28 #[.string ⟨#[]⟩, .string ⟨#[]⟩, .string ⟨#[]⟩, .slice none 0 0, .slice none 0 0]) := by rw [hw3]; exact (h2.alloc o).far (p := ⟨w.heap.size + 2, 0, none⟩) (by show w.heap.size + 1 ≠ w.heap.size + 2; omega) _
    have K3 : Hid (Below w.heap.size w w3) := by rw [hw3]; exact (h3.alloc h3.size o).setCell (p := ⟨w.heap.size + 2, 0, none⟩) (by show w.heap.size ≤ w.heap.size + 2; omega) _
    have i0 : w3.cell? ⟨w.heap.size + 1, 0, none⟩ = some (.string ⟨#[]⟩) := H3.out.cell 0
    have y0 : w3.frozen? ⟨w.heap.size + 1, 0, none⟩ = false := H3.out.frozen 0
    have i1 : w3.cell? ⟨w.heap.size + 1, 1, none⟩ = some (.string ⟨#[]⟩) := H3.out.cell 1
    have y1 : w3.frozen? ⟨w.heap.size + 1, 1, none⟩ = false := H3.out.frozen 1
    have i2 : w3.cell? ⟨w.heap.size + 1, 2, none⟩ = some (.string ⟨#[]⟩) := H3.out.cell 2
    have y2 : w3.frozen? ⟨w.heap.size + 1, 2, none⟩ = false := H3.out.frozen 2
    have i3 : w3.cell? ⟨w.heap.size + 1, 3, none⟩ = some (.slice none 0 0) := H3.out.cell 3
    have y3 : w3.frozen? ⟨w.heap.size + 1, 3, none⟩ = false := H3.out.frozen 3
    have i4 : w3.cell? ⟨w.heap.size + 1, 4, none⟩ = some (.slice none 0 0) := H3.out.cell 4
    have y4 : w3.frozen? ⟨w.heap.size + 1, 4, none⟩ = false := H3.out.frozen 4
    clear hw3 h1 h2 h3
    have EN : Hid (∀ u0 u1 u2 u3 u4, Only [w.heap.size + 1] w3 (laidW w3 (w.heap.size + 1) u0 u1 u2 u3 u4) ∧ Held (laidW w3 (w.heap.size + 1) u0 u1 u2 u3 u4) (w.heap.size + 1) 28 #[u0, u1, u2, u3, u4]) := fun u0 u1 u2 u3 u4 => laid_at0 H3.out rfl u0 u1 u2 u3 u4
    clear AT HW WS H3
    go_wp2_with fail
    refine bodyPost_ret (res_cell_tmpX _ _ 3 2 28 (.int .i64 (n : Int)) _ _ Tryz.results8 rfl rfl (load_nd (EN.out _ _ _ _ _).2 rfl)) rfl ⟨(EN.out _ _ _ _ _).1.from_ K3.out (fun x hx => by
      have : x = w.heap.size + 1 := by simpa using hx
      omega), ?_⟩
    rw [HU.out]
    exact rfl
end Go.Proofs.YteefjmdallpihaaGreatDoor
