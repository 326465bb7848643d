/-
  xml: element, over content. · xml: content, over element.
-/
import Derived.Test.YteefjmdallpihaaGreatDoorQX5
namespace Go.Proofs.YteefjmdallpihaaGreatDoor
open Go.RowKit Reply Go.Shelf

section
variable {w0 w : World} {C p : Nat} {s : Xml.St} {A : Option Addr} {c : Nat}
/-- An element's call once its node is laid. -/
structure ElK (w0 : World) (C : Nat) (w : World) (p b8 : Nat) (s1 : Xml.St) (wr : World) (sp lc : Reply.B) (va vk : Value) (al : List (Reply.B × Reply.B)) (ks : List Xml.Nd) (l : List NC) : Prop where
  T : ElI w0 C w p w.heap.size s1 wr
  H : Held wr b8 28 #[.string ⟨#[]⟩, .string (S sp), .string (S lc), va, vk]
  O : OwnHA wr w.heap.size va al
  K : OwnHN wr w.heap.size vk l
  N : NdsV wr (fun k => w.heap.size < k) ks l
  I : InP (fun k => w.heap.size < k) vk
theorem ElK.read {b8 : Nat} {s1 s2 : Xml.St} {wr w' : World} {sp lc : Reply.B} {va vk : Value} {al : List (Reply.B × Reply.B)} {ks : List Xml.Nd} {l : List NC} {A1 : Option Addr} {c1 : Nat} (h : ElK w0 C w p b8 s1 wr sp lc va vk al ks l) (r : RdX w0 C w' p s2 A1 c1) (f : FrX C p wr w') : ElK w0 C w p b8 s2 w' sp lc va vk al ks l := by
  obtain ⟨A2, c2, q⟩ := h.T.rd
  exact ⟨h.T.read r f, f.held h.H (Held.ne_ h.H q.blk (by decide)) (by decide), f.row h.O (Held.ne_row q.blk h.O (by decide)) (by decide), f.row h.K (Held.ne_row q.blk h.K (by decide)) (by decide), NdsV.keep (f.keepN q.blk (fun k hk => hk)) ks l h.N, h.I⟩
theorem ElK.ndv {b8 : Nat} {s1 : Xml.St} {wr : World} {sp lc : Reply.B} {va vk : Value} {al : List (Reply.B × Reply.B)} {ks : List Xml.Nd} {l : List NC} (h : ElK w0 C w p b8 s1 wr sp lc va vk al ks l) : NdV wr (fun k => w.heap.size < k) (.mk [] sp lc al ks) ⟨[], sp, lc, va, vk⟩ := by
  unfold NdV
  exact ⟨rfl, rfl, rfl, ⟨h.O.1, h.O.2.imp id fun ⟨g, cap, cur, a, b, c⟩ => ⟨g, cap, cur, a, Nat.zero_le _, c⟩⟩, fun g hg => Nat.lt_of_le_of_ne (World.ownsRow.lt h.O g hg).1 (Ne.symm (Held.ne_row h.T.ans h.O (by decide) g hg)), l,
    ⟨h.K.1, h.K.2.imp id fun ⟨g, cap, cur, a, b, c⟩ => ⟨g, cap, cur, a, Nat.zero_le _, c⟩⟩, h.I, h.N⟩
theorem ElK.start {b8 : Nat} {s1 : Xml.St} {wr : World} {sp lc : Reply.B} {va : Value} {al : List (Reply.B × Reply.B)} (T : ElI w0 C w p w.heap.size s1 wr) (H : Held wr b8 28 #[.string ⟨#[]⟩, .string (S sp), .string (S lc), va, .slice none 0 0]) (O : OwnHA wr w.heap.size va al) : ElK w0 C w p b8 s1 wr sp lc va (.slice none 0 0) al [] [] :=
  ⟨T, H, O, OwnHN.nil _ _, by unfold NdsV; rfl, fun g e => by cases e⟩
/-- The kids are laid into the node. -/
theorem ElK.lay {b8 : Nat} {s1 : Xml.St} {w9 wr : World} {sp lc : Reply.B} {va vk : Value} {al : List (Reply.B × Reply.B)} {ks : List Xml.Nd} {l : List NC} (T : ElI w0 C w p w.heap.size s1 wr) (H : Held wr b8 28 #[.string ⟨#[]⟩, .string (S sp), .string (S lc), va, .slice none 0 0]) (O : OwnHA wr w.heap.size va al) (hb : w.heap.size < b8) (h9 : b8 < w9.heap.size) (hl : w0.heap.size ≤ w.heap.size) (K : OwnHN wr w9.heap.size vk l) (N : NdsV wr (fun k => w9.heap.size ≤ k) ks l) : ElK w0 C w p b8 s1 (wr.setCell ⟨b8, 4, none⟩ vk) sp lc va vk al ks l := by
  obtain ⟨A2, c2, q⟩ := T.rd
  have hk : ∀ g, vk.ownBlock = some g → w9.heap.size ≤ g := fun g hg => (K.lt g hg).1
  refine ⟨⟨⟨A2, c2, q.past H (by decide) (by decide) (by omega) 4 vk⟩, T.fr.past (by omega) 4 vk, T.lo, T.ans.far (p := ⟨b8, 4, none⟩) (by show w.heap.size ≠ b8; omega) vk⟩, H.set_ 4 vk, (setX_only b8 4 wr vk).row O (fun g hg hm => Held.ne_row H O (by decide) g hg (by simpa using hm)), ?_, ?_, fun g hg => by have := hk g hg; show w.heap.size < g; omega⟩
  · have k2 : OwnHN (wr.setCell ⟨b8, 4, none⟩ vk) w9.heap.size vk l := (setX_only b8 4 wr vk).row K (fun g hg hm => by
      have := hk g hg
      have : g = b8 := by simpa using hm
      omega)
    exact ⟨k2.1, k2.2.imp id fun ⟨g, cap, cur, a, b, c⟩ => ⟨g, cap, cur, a, by omega, c⟩⟩
  · exact NdsV.keep (KeepN.set (P := fun k => w9.heap.size ≤ k) (fun k hk => ⟨by omega, by omega⟩)) ks l N
set_option maxRecDepth 100000 in
set_option maxHeartbeats 16000000 in
theorem elemX_step (NU : NumX) (IX : IdxX) (RU : RuneX) (f : Nat) (CT : ContC f) : ElemC (f + 1) := by
  intro w0 w C p s A c h hr hf
  have HN := Lib.hid NU
  have HI := Lib.hid IX
  have HR := Lib.hid RU
  have HC := Lib.hid CT
  obtain ⟨R, hR⟩ : ∃ x, x = Xml.element (f + 1) s := ⟨_, rfl⟩
  rw [← hR]
  have E := Lib.hid (hR.trans (Xml.element_eq f s))
  have ro1 := hr.few
  have ro2 := hr.all
  have HPL : Hid (p < w.heap.size) := h.blk.lt
  have HLL : Hid (w0.heap.size ≤ w.heap.size) := h.bel.size
  have K0 : Below w.heap.size w (w.alloc (.cells #[.string ⟨#[]⟩, .string ⟨#[]⟩, .string ⟨#[]⟩, .slice none 0 0, .slice none 0 0] 28)) := (Below.refl _ _).alloc (Nat.le_refl _) _
  have T0 : ∀ w1, w1 = w.alloc (.cells #[.string ⟨#[]⟩, .string ⟨#[]⟩, .string ⟨#[]⟩, .slice none 0 0, .slice none 0 0] 28) → ElI w0 C w p w.heap.size s w1 ∧ RdX w0 C w1 p s A c := fun w1 e => by
    subst e
    exact ⟨⟨⟨A, c, h.under K0⟩, FrX.under K0, Nat.le_refl _, Held.new w _ _ rfl⟩, h.under K0⟩
  have c1 : (w.alloc (.cells #[.string ⟨#[]⟩, .string ⟨#[]⟩, .string ⟨#[]⟩, .slice none 0 0, .slice none 0 0] 28)).cell? ⟨p, 1, none⟩ = some (.slice A s.spaces.length c) := (h.under K0).blk.cell 1
  obtain ⟨n0, hn0⟩ : ∃ x, x = s.spaces.length := ⟨_, rfl⟩
  rw [← hn0] at c1 E
  have N0 := Lib.hid hn0
  have n0b : n0 + s.rest.length ≤ 70000 := by rw [hn0]; exact ro2
  have T0 := Lib.hid T0
  clear h hr hR NU IX RU CT K0 hn0
  go_enter Tryz.func28, Tryz.ntmps28
  go_wp2_with fail
  refine (needX_lit (T0.out _ rfl).2 [60] ⟨#[60]⟩ rfl).mono ?_
  rintro e w2 ⟨f2, X2⟩
  have G2 := Lib.hid f2
  have T1 := Lib.hid (T0.out _ rfl).1
  clear f2 c1 T0
  cases hu : Xml.need s [60] with
  | bad n =>
    rw [hu] at X2 E
    obtain rfl := X2
    exact ⟨rfl, T1.out.fr.trans G2.out, EndsNd.bad E.out⟩
  | ok u2 s2 =>
    rw [hu] at X2 E
    obtain ⟨rfl, r2⟩ := X2
    have k2 := Xml.need_ok hu
    have T2 := Lib.hid (T1.out.read r2 G2.out)
    have R2 := Lib.hid r2
    have E : Hid (R = (Xml.fullName s2).then fun w s2 => (Xml.attributes f s2 []).then fun l s3 => (Xml.declare s3 l []).then fun al s4 => Xml.elem2 f n0 w al s4) := E.out
    simp only [List.length_singleton] at k2
    have sp2 := k2.2
    clear r2 G2 T1 hu
    have FU := Lib.hid (fullX_any R2.out (by omega))
    go_wp2_with fail
    refine FU.out.mono ?_
    rintro e w3 ⟨f3, X3⟩
    have G3 := Lib.hid f3
    clear f3 FU
    cases hu : Xml.fullName s2 with
    | bad n =>
      rw [hu] at X3 E
      obtain rfl := X3
      exact ⟨rfl, T2.out.fr.trans G3.out, EndsNd.bad E.out⟩
    | ok nm s3 =>
      rw [hu] at X3 E
      obtain ⟨rfl, r3⟩ := X3
      have k3 := Xml.fullName_ok hu
      have T3 := Lib.hid (T2.out.read r3 G3.out)
      have R3 := Lib.hid r3
      have E : Hid (R = (Xml.attributes f s3 []).then fun l s3 => (Xml.declare s3 l []).then fun al s4 => Xml.elem2 f n0 nm al s4) := E.out
      clear r3 G3 hu R2 T2
      have SP := Lib.hid (splitX_any w3 R3.out.envw nm (by omega))
      go_wp2_with fail
      refine SP.out.mono ?_
      rintro e w4 ⟨rfl, b4⟩
      have T4 := Lib.hid (T3.out.under b4)
      have R4 := Lib.hid (R3.out.under b4)
      clear b4 SP R3 T3
      have AT := Lib.hid (attrsX_any HN.out HI.out HR.out R4.out (by omega) f (by omega))
      obtain ⟨pr, hpr⟩ : ∃ x, x = (Xml.split nm).1 := ⟨_, rfl⟩
      obtain ⟨lc, hlc⟩ : ∃ x, x = (Xml.split nm).2 := ⟨_, rfl⟩
      have HPR := Lib.hid hpr
      have HLC := Lib.hid hlc
      have lcl : lc.length ≤ 65536 := by
        rw [hlc]
        have := Xml.split_len nm
        omega
      rw [← hpr, ← hlc]
      clear hpr hlc
      go_wp2_with fail
      refine AT.out.mono ?_
      rintro e w5 ⟨f5, X5⟩
      have G5 := Lib.hid f5
      clear f5 AT
      cases hu : Xml.attributes f s3 [] with
      | bad n =>
        rw [hu] at X5 E
        obtain rfl := X5
        exact ⟨rfl, T4.out.fr.trans G5.out, EndsNd.bad E.out⟩
      | ok l5 s5 =>
        rw [hu] at X5 E
        obtain ⟨v5, rfl, o5, A5, c5, r5⟩ := X5
        have k5 := Xml.attributes_ok f hu
        have z5 := k5.2.2 (by simp) (by omega)
        have T5 := Lib.hid (T4.out.read r5 G5.out)
        have R5 := Lib.hid r5
        have E : Hid (R = (Xml.declare s5 l5 []).then fun al s4 => Xml.elem2 f n0 nm al s4) := E.out
        obtain ⟨Aa, ca, rfl, _⟩ := o5.any
        have sl5 : s5.spaces.length = n0 := by rw [k5.2.1, k3.2.2, sp2, N0.out]
        simp only [List.length_nil, Nat.add_zero] at k5
        have DC := Lib.hid (declareX_any R5.out o5 z5 (by rw [sl5, N0.out]; omega))
        obtain ⟨nl, hnl⟩ : ∃ x, x = l5.length := ⟨_, rfl⟩
        rw [← hnl] at DC ⊢
        have z9 : nl + s5.rest.length ≤ s3.rest.length := by omega
        have HNL := Lib.hid hnl
        have SP2 : Hid (s5.spaces = s.spaces) := by show _ = _; rw [k5.2.1, k3.2.2, sp2]
        clear r5 G5 hu R4 T4 o5 z5 k5 hnl
        go_wp2_with fail
        refine DC.out.mono ?_
        rintro e w6 ⟨f6, X6⟩
        have G6 := Lib.hid f6
        clear f6 DC
        cases hu : Xml.declare s5 l5 [] with
        | bad n =>
          rw [hu] at X6 E
          obtain rfl := X6
          exact ⟨rfl, T5.out.fr.trans G6.out, EndsNd.bad E.out⟩
        | ok al s6 =>
          rw [hu] at X6 E
          obtain ⟨v6, rfl, o6, A6, c6, r6⟩ := X6
          obtain ⟨k6, x6, e6, m6⟩ := Xml.declare_ok l5 hu
          have T6 := Lib.hid (T5.out.read r6 G6.out)
          have R6 := Lib.hid r6
          have E : Hid (R = Xml.elem2 f n0 nm al s6) := E.out
          have EX : Hid (s6.spaces = s.spaces ++ x6) := by show _ = _; rw [e6, SP2.out]
          have r4 : s6.rest.length = s5.rest.length := by rw [k6]
          have sl6 : s6.spaces.length = n0 + x6.length := by rw [EX.out, List.length_append, N0.out]
          obtain ⟨Ab, cb, rfl, _⟩ := o6.any
          obtain ⟨na, hna⟩ : ∃ x, x = al.length := ⟨_, rfl⟩
          rw [← hna] at o6 ⊢
          rw [← HNL.out] at m6
          simp only [List.length_nil, Nat.add_zero] at m6
          have HNA := Lib.hid hna
          have B5 : Hid (w.heap.size ≤ w5.heap.size) := T5.out.fr.size
          have O6 : Hid (OwnHA w6 w.heap.size (.slice Ab na cb) al) := ⟨o6.1, o6.2.imp id fun ⟨g, cap, cur, a, b, c⟩ => ⟨g, cap, cur, a, Nat.le_trans B5.out b, c⟩⟩
          have bx : x6.length ≤ nl := by omega
          clear r6 G6 hu R5 T5 o6 hna e6 k6 m6 SP2 B5
          have SO := Lib.hid (spaceX_any R6.out (by omega) pr)
          go_wp2_with fail
          refine SO.out.mono ?_
          rintro e w7 ⟨rfl, X7⟩
          clear SO
          have E : Hid (R = match Xml.spaceOf s6.spaces pr with
            | none => .bad 30
            | some sp => if (Xml.skip s6 [47, 62]).1 then .ok (.mk [] sp lc al []) { (Xml.skip s6 [47, 62]).2 with spaces := s6.spaces.take n0 }
              else (Xml.need s6 [62]).then fun _ s5 => (Xml.content f s5 []).then fun ks s6 => (Xml.need s6 ([60, 47] ++ nm)).then fun _ s7 => (Xml.need (Xml.white s7).2 [62]).then fun _ s8 =>
                .ok (.mk [] sp lc al ks) { s8 with spaces := s8.spaces.take n0 }) := by rw [HPR.out, HLC.out]; exact E.out
          cases hu : Xml.spaceOf s6.spaces pr with
          | none =>
            rw [hu] at X7 E
            obtain rfl := X7
            exact ⟨rfl, T6.out.fr, EndsNd.bad E.out⟩
          | some sp =>
            rw [hu] at X7 E
            obtain rfl := X7
            have E : Hid (R = if (Xml.skip s6 [47, 62]).1 then .ok (.mk [] sp lc al []) { (Xml.skip s6 [47, 62]).2 with spaces := s6.spaces.take n0 }
              else (Xml.need s6 [62]).then fun _ s5 => (Xml.content f s5 []).then fun ks s6 => (Xml.need s6 ([60, 47] ++ nm)).then fun _ s7 => (Xml.need (Xml.white s7).2 [62]).then fun _ s8 =>
                .ok (.mk [] sp lc al ks) { s8 with spaces := s8.spaces.take n0 }) := E.out
            clear hu HPR HLC
            have CL := Lib.hid (fun u => fcloneX_any u (S lc) (by rw [S_size]; omega))
            go_wp2_with fail
            refine (CL.out _).mono ?_
            rintro e w7 ⟨rfl, b7⟩
            have T7 := Lib.hid (T6.out.under b7)
            have R7 := Lib.hid (R6.out.under b7)
            have O7 : Hid (OwnHA w7 w.heap.size (.slice Ab na cb) al) := O6.out.below b7
            clear b7 CL T6 R6 O6
            have K8 : Below w7.heap.size w7 (w7.alloc (.cells #[.string ⟨#[]⟩, .string (S sp), .string (S lc), .slice Ab na cb, .slice none 0 0] 28)) := (Below.refl _ _).alloc (Nat.le_refl _) _
            have T8 := Lib.hid (T7.out.under K8)
            have R8 := Lib.hid (R7.out.under K8)
            have O8 := Lib.hid (OwnHA.below O7.out K8)
            have H8 : Hid (Held (w7.alloc (.cells #[.string ⟨#[]⟩, .string (S sp), .string (S lc), .slice Ab na cb, .slice none 0 0] 28)) w7.heap.size 28 #[.string ⟨#[]⟩, .string (S sp), .string (S lc), .slice Ab na cb, .slice none 0 0]) := Held.new w7 _ _ rfl
            have L7 : Hid (w.heap.size < w7.heap.size) := T7.out.ans.lt
            clear T7 R7 O7 K8
            have SK := Lib.hid (skipX_lit R8.out [47, 62] ⟨#[47, 62]⟩ rfl)
            go_wp2_with fail
            refine SK.out.mono ?_
            rintro e w9 ⟨rfl, r9, f9⟩
            have T9 := Lib.hid (T8.out.read r9 f9)
            have R9 := Lib.hid r9
            have O9 := Lib.hid (FrX.row f9 O8.out (Held.ne_row R8.out.blk O8.out (by decide)) (by decide))
            have H9 : Hid (Held w9 w7.heap.size 28 #[.string ⟨#[]⟩, .string (S sp), .string (S lc), .slice Ab na cb, .slice none 0 0]) := f9.held H8.out (Held.ne_ H8.out R8.out.blk (by decide)) (by decide)
            clear r9 f9 SK T8 R8 O8 H8
            cases hk : (Xml.skip s6 [47, 62]).1 with
            | true =>
              rw [if_pos hk] at E
              obtain ⟨s9, hs9⟩ : ∃ x, x = (Xml.skip s6 [47, 62]).2 := ⟨_, rfl⟩
              have ss9 : s6.spaces = s9.spaces := by rw [hs9]; rfl
              have sl9 : s9.spaces.length = s6.spaces.length := by rw [ss9]
              rw [← hs9, ss9] at E
              rw [← hs9] at T9 R9
              have K9 := Lib.hid (ElK.start T9.out H9.out O9.out)
              clear hk hs9 T9 H9 O9 ss9
              have q1 : w9.cell? ⟨p, 1, none⟩ = some (.slice A6 s9.spaces.length c6) := R9.out.blk.cell 1
              have hcap : s9.spaces.length ≤ c6 := by
                obtain ⟨_, c9, e9, h9, _⟩ := R9.out.row.any
                injection e9 with _ _ e9
                subst e9
                exact h9
              have hn9 : n0 ≤ s9.spaces.length := by omega
              have EN := Lib.hid (fun u0 u1 u2 u3 u4 => elem_end HPL.out HLL.out K9.out.T R9.out n0 hn9 _ _ K9.out.ndv u0 u1 u2 u3 u4)
              have q2 : (n0 : Int) ≤ (c6 : Int) := by omega
              have q3 : w9.frozen? ⟨p, 1, none⟩ = false := R9.out.blk.frozen 1
              obtain ⟨n6, hn6⟩ : ∃ x, x = s9.spaces.length := ⟨_, rfl⟩
              rw [← hn6] at q1
              have q4 : n6 ≤ c6 := by omega
              have np8 : w7.heap.size ≠ p := Held.ne_ K9.out.H R9.out.blk (by decide)
              have np2 : w.heap.size ≠ p := Held.ne_ K9.out.T.ans R9.out.blk (by decide)
              have d0 : w9.cell? ⟨w7.heap.size, 0, none⟩ = some (.string ⟨#[]⟩) := K9.out.H.cell 0
              have d1 : w9.cell? ⟨w7.heap.size, 1, none⟩ = some (.string (S sp)) := K9.out.H.cell 1
              have d2 : w9.cell? ⟨w7.heap.size, 2, none⟩ = some (.string (S lc)) := K9.out.H.cell 2
              have d3 : w9.cell? ⟨w7.heap.size, 3, none⟩ = some (.slice Ab na cb) := K9.out.H.cell 3
              have d4 : w9.cell? ⟨w7.heap.size, 4, none⟩ = some (.slice none 0 0) := K9.out.H.cell 4
              have i0 : w9.cell? ⟨w.heap.size, 0, none⟩ = some (.string ⟨#[]⟩) := K9.out.T.ans.cell 0
              have i1 : w9.cell? ⟨w.heap.size, 1, none⟩ = some (.string ⟨#[]⟩) := K9.out.T.ans.cell 1
              have i2 : w9.cell? ⟨w.heap.size, 2, none⟩ = some (.string ⟨#[]⟩) := K9.out.T.ans.cell 2
              have i3 : w9.cell? ⟨w.heap.size, 3, none⟩ = some (.slice none 0 0) := K9.out.T.ans.cell 3
              have i4 : w9.cell? ⟨w.heap.size, 4, none⟩ = some (.slice none 0 0) := K9.out.T.ans.cell 4
              have y0 : w9.frozen? ⟨w.heap.size, 0, none⟩ = false := K9.out.T.ans.frozen 0
              have y1 : w9.frozen? ⟨w.heap.size, 1, none⟩ = false := K9.out.T.ans.frozen 1
              have y2 : w9.frozen? ⟨w.heap.size, 2, none⟩ = false := K9.out.T.ans.frozen 2
              have y3 : w9.frozen? ⟨w.heap.size, 3, none⟩ = false := K9.out.T.ans.frozen 3
              have y4 : w9.frozen? ⟨w.heap.size, 4, none⟩ = false := K9.out.T.ans.frozen 4
              clear hn6 hcap hn9
              rcases A6 with _ | ad6
              · go_wp2_with fail
                refine bodyPost_ret (resX _ _ 2 28 _ _ Tryz.results28 rfl (load_nd (EN.out _ _ _ _ _).2.1 rfl)) rfl ⟨(EN.out _ _ _ _ _).1, EndsNd.ok E.out rfl (EN.out _ _ _ _ _).2.2.1 (EN.out _ _ _ _ _).2.2.2⟩
              · go_wp2_with fail
                refine bodyPost_ret (resX _ _ 2 28 _ _ Tryz.results28 rfl (load_nd (EN.out _ _ _ _ _).2.1 rfl)) rfl ⟨(EN.out _ _ _ _ _).1, EndsNd.ok E.out rfl (EN.out _ _ _ _ _).2.2.1 (EN.out _ _ _ _ _).2.2.2⟩
            | false =>
              rw [if_neg (by rw [hk]; simp)] at E
              rw [Xml.skip_no s6 [47, 62] hk] at T9 R9
              clear hk
              have ND := Lib.hid (needX_lit R9.out [62] ⟨#[62]⟩ rfl)
              go_wp2_with fail
              refine ND.out.mono ?_
              rintro e w10 ⟨f10, X10⟩
              have G10 := Lib.hid f10
              clear f10 ND
              cases hu : Xml.need s6 [62] with
              | bad n =>
                rw [hu] at X10 E
                obtain rfl := X10
                exact ⟨rfl, T9.out.fr.trans G10.out, EndsNd.bad E.out⟩
              | ok u10 s10 =>
                rw [hu] at X10 E
                obtain ⟨rfl, r10⟩ := X10
                have k10 := Xml.need_ok hu
                simp only [List.length_singleton] at k10
                have T10 := Lib.hid (T9.out.read r10 G10.out)
                have R10 := Lib.hid r10
                have O10 : Hid (OwnHA w10 w.heap.size (.slice Ab na cb) al) := G10.out.row O9.out (Held.ne_row R9.out.blk O9.out (by decide)) (by decide)
                have H10 := Lib.hid (G10.out.held H9.out (Held.ne_ H9.out R9.out.blk (by decide)) (by decide))
                have E : Hid (R = (Xml.content f s10 []).then fun ks s6 => (Xml.need s6 ([60, 47] ++ nm)).then fun _ s7 => (Xml.need (Xml.white s7).2 [62]).then fun _ s8 =>
                  .ok (.mk [] sp lc al ks) { s8 with spaces := s8.spaces.take n0 }) := E.out
                clear r10 G10 hu R9 T9 O9 H9
                have sl10 : s10.spaces.length = n0 + x6.length := by rw [k10.2]; exact sl6
                have CN := Lib.hid (HC.out w0 w10 C p s10 A6 c6 R10.out ⟨by omega, by omega⟩ (by omega))
                go_wp2_with fail
                refine CN.out.mono ?_
                rintro e w11 ⟨f11, X11⟩
                have G11 := Lib.hid f11
                clear f11 CN
                cases hu : Xml.content f s10 [] with
                | bad n =>
                  rw [hu] at X11 E
                  obtain rfl := X11
                  exact ⟨rfl, T10.out.fr.trans G11.out, EndsNd.bad E.out⟩
                | ok ks s11 =>
                  rw [hu] at X11 E
                  obtain ⟨v11, l11, rfl, o11, n11, A11, c11, r11⟩ := X11
                  have k11 := Xml.content_ok f hu
                  have T11 := Lib.hid (T10.out.read r11 G11.out)
                  have O11 : Hid (OwnHA w11 w.heap.size (.slice Ab na cb) al) := G11.out.row O10.out (Held.ne_row R10.out.blk O10.out (by decide)) (by decide)
                  have H11 := Lib.hid (G11.out.held H10.out (Held.ne_ H10.out R10.out.blk (by decide)) (by decide))
                  have K12 := Lib.hid (ElK.lay T11.out H11.out O11.out L7.out H10.out.lt HLL.out o11 n11)
                  have R12 := Lib.hid (r11.past H11.out (by decide) (by decide) (Nat.le_trans HLL.out (Nat.le_of_lt L7.out)) 4 v11)
                  obtain ⟨Ak, ck, rfl, _⟩ := o11.any
                  obtain ⟨nk, hnk⟩ : ∃ x, x = l11.length := ⟨_, rfl⟩
                  rw [← hnk] at K12 R12 ⊢
                  have E : Hid (R = (Xml.need s11 ([60, 47] ++ nm)).then fun _ s7 => (Xml.need (Xml.white s7).2 [62]).then fun _ s8 =>
                    .ok (.mk [] sp lc al ks) { s8 with spaces := s8.spaces.take n0 }) := E.out
                  have sl11 : s11.spaces.length = n0 + x6.length := by rw [k11.2.1]; exact sl10
                  have b4 : w11.cell? ⟨w7.heap.size, 4, none⟩ = some (.slice none 0 0) := H11.out.cell 4
                  have b5 : w11.frozen? ⟨w7.heap.size, 4, none⟩ = false := H11.out.frozen 4
                  have b6 : ¬ 9223372036854775807 < 2 + (S nm).size := by rw [S_size]; omega
                  have ND := Lib.hid (needX_lit R12.out ([60, 47] ++ nm) (⟨#[60, 47]⟩ ++ S nm) (by rw [← S_append]; rfl))
                  clear r11 G11 hu R10 T10 O10 H10 T11 O11 H11 o11 n11 hnk
                  go_wp2_with fail
                  refine ND.out.mono ?_
                  rintro e w13 ⟨f13, X13⟩
                  have G13 := Lib.hid f13
                  clear f13 ND b4 b5 b6
                  cases hu : Xml.need s11 ([60, 47] ++ nm) with
                  | bad n =>
                    rw [hu] at X13 E
                    obtain rfl := X13
                    exact ⟨rfl, K12.out.T.fr.trans G13.out, EndsNd.bad E.out⟩
                  | ok u13 s13 =>
                    rw [hu] at X13 E
                    obtain ⟨rfl, r13⟩ := X13
                    have k13 := Xml.need_ok hu
                    have K13 := Lib.hid (K12.out.read r13 G13.out)
                    have R13 := Lib.hid r13
                    have E : Hid (R = (Xml.need (Xml.white s13).2 [62]).then fun _ s8 =>
                      .ok (.mk [] sp lc al ks) { s8 with spaces := s8.spaces.take n0 }) := E.out
                    clear r13 G13 hu K12 R12
                    have k14 := Xml.white_le s13
                    have WH := Lib.hid (whiteX_any R13.out)
                    go_wp2_with fail
                    refine WH.out.mono ?_
                    rintro e w14 ⟨rfl, r14, f14⟩
                    have K14 := Lib.hid (K13.out.read r14 f14)
                    have R14 := Lib.hid r14
                    clear r14 f14 WH K13 R13
                    have ND := Lib.hid (needX_lit R14.out [62] ⟨#[62]⟩ rfl)
                    go_wp2_with fail
                    refine ND.out.mono ?_
                    rintro e w15 ⟨f15, X15⟩
                    have G15 := Lib.hid f15
                    clear f15 ND
                    cases hu : Xml.need (Xml.white s13).2 [62] with
                    | bad n =>
                      rw [hu] at X15 E
                      obtain rfl := X15
                      exact ⟨rfl, K14.out.T.fr.trans G15.out, EndsNd.bad E.out⟩
                    | ok u15 s15 =>
                      rw [hu] at X15 E
                      obtain ⟨rfl, r15⟩ := X15
                      have k15 := Xml.need_ok hu
                      have K15 := Lib.hid (K14.out.read r15 G15.out)
                      have R15 := Lib.hid r15
                      have E : Hid (R = .ok (.mk [] sp lc al ks) { s15 with spaces := s15.spaces.take n0 }) := E.out
                      have sl15 : s15.spaces.length = n0 + x6.length := by rw [k15.2, k14.2, k13.2]; exact sl11
                      clear r15 G15 hu K14 R14
                      have q1 : w15.cell? ⟨p, 1, none⟩ = some (.slice A11 s15.spaces.length c11) := R15.out.blk.cell 1
                      have hcap : s15.spaces.length ≤ c11 := by
                        obtain ⟨_, c9, e9, h9, _⟩ := R15.out.row.any
                        injection e9 with _ _ e9
                        subst e9
                        exact h9
                      have hn9 : n0 ≤ s15.spaces.length := by omega
                      have EN := Lib.hid (fun u0 u1 u2 u3 u4 => elem_end HPL.out HLL.out K15.out.T R15.out n0 hn9 _ _ K15.out.ndv u0 u1 u2 u3 u4)
                      have q2 : (n0 : Int) ≤ (c11 : Int) := by omega
                      have q3 : w15.frozen? ⟨p, 1, none⟩ = false := R15.out.blk.frozen 1
                      obtain ⟨n6, hn6⟩ : ∃ x, x = s15.spaces.length := ⟨_, rfl⟩
                      rw [← hn6] at q1
                      have q4 : n6 ≤ c11 := by omega
                      have np8 : w7.heap.size ≠ p := Held.ne_ K15.out.H R15.out.blk (by decide)
                      have np2 : w.heap.size ≠ p := Held.ne_ K15.out.T.ans R15.out.blk (by decide)
                      have d0 : w15.cell? ⟨w7.heap.size, 0, none⟩ = some (.string ⟨#[]⟩) := K15.out.H.cell 0
                      have d1 : w15.cell? ⟨w7.heap.size, 1, none⟩ = some (.string (S sp)) := K15.out.H.cell 1
                      have d2 : w15.cell? ⟨w7.heap.size, 2, none⟩ = some (.string (S lc)) := K15.out.H.cell 2
                      have d3 : w15.cell? ⟨w7.heap.size, 3, none⟩ = some (.slice Ab na cb) := K15.out.H.cell 3
                      have d4 : w15.cell? ⟨w7.heap.size, 4, none⟩ = some (.slice Ak nk ck) := K15.out.H.cell 4
                      have i0 : w15.cell? ⟨w.heap.size, 0, none⟩ = some (.string ⟨#[]⟩) := K15.out.T.ans.cell 0
                      have i1 : w15.cell? ⟨w.heap.size, 1, none⟩ = some (.string ⟨#[]⟩) := K15.out.T.ans.cell 1
                      have i2 : w15.cell? ⟨w.heap.size, 2, none⟩ = some (.string ⟨#[]⟩) := K15.out.T.ans.cell 2
                      have i3 : w15.cell? ⟨w.heap.size, 3, none⟩ = some (.slice none 0 0) := K15.out.T.ans.cell 3
                      have i4 : w15.cell? ⟨w.heap.size, 4, none⟩ = some (.slice none 0 0) := K15.out.T.ans.cell 4
                      have y0 : w15.frozen? ⟨w.heap.size, 0, none⟩ = false := K15.out.T.ans.frozen 0
                      have y1 : w15.frozen? ⟨w.heap.size, 1, none⟩ = false := K15.out.T.ans.frozen 1
                      have y2 : w15.frozen? ⟨w.heap.size, 2, none⟩ = false := K15.out.T.ans.frozen 2
                      have y3 : w15.frozen? ⟨w.heap.size, 3, none⟩ = false := K15.out.T.ans.frozen 3
                      have y4 : w15.frozen? ⟨w.heap.size, 4, none⟩ = false := K15.out.T.ans.frozen 4
                      clear hn6 hcap hn9
                      rcases A11 with _ | ad6
                      · go_wp2_with fail
                        refine bodyPost_ret (resX _ _ 2 28 _ _ Tryz.results28 rfl (load_nd (EN.out _ _ _ _ _).2.1 rfl)) rfl ⟨(EN.out _ _ _ _ _).1, EndsNd.ok E.out rfl (EN.out _ _ _ _ _).2.2.1 (EN.out _ _ _ _ _).2.2.2⟩
                      · go_wp2_with fail
                        refine bodyPost_ret (resX _ _ 2 28 _ _ Tryz.results28 rfl (load_nd (EN.out _ _ _ _ _).2.1 rfl)) rfl ⟨(EN.out _ _ _ _ _).1, EndsNd.ok E.out rfl (EN.out _ _ _ _ _).2.2.1 (EN.out _ _ _ _ _).2.2.2⟩
end
end Go.Proofs.YteefjmdallpihaaGreatDoor

namespace Go.Proofs.YteefjmdallpihaaGreatDoor
open Go.RowKit Reply Go.Shelf

theorem hasprefX_any (w : World) (l p : Reply.B) (t : ByteArray) (ht : t = S p) : Calls Tryz.prog 64 #[.string (S l), .string t] w fun e w' => e = .returned (.bool (Lib.hasPrefix l p)) ∧ w = w' := by
  subst ht
  exact (Tryz.strings_HasPrefix (S l) (S p) w).mono fun _ _ h => ⟨h.1, h.2.symm⟩
section
variable {w0 w : World} {C p : Nat} {s : Xml.St} {A : Option Addr} {c : Nat}
theorem NdV.mono {wr : World} {P Q : Nat → Prop} (h : ∀ k, P k → Q k) {d : Xml.Nd} {n : NC} (hd : NdV wr P d n) : NdV wr Q d n := NdV.keep (fun k _ _ _ hk _ _ => ⟨rfl, h k hk⟩) d n hd
theorem NdsV.mono {wr : World} {P Q : Nat → Prop} (h : ∀ k, P k → Q k) {d : List Xml.Nd} {n : List NC} (hd : NdsV wr P d n) : NdsV wr Q d n := NdsV.keep (fun k _ _ _ hk _ _ => ⟨rfl, h k hk⟩) d n hd
/-- A content's call between two steps. -/
structure CoR (w0 : World) (C : Nat) (w : World) (p : Nat) (v : Value) (s1 : Xml.St) (l1 : List Xml.Nd) (m1 : List NC) (wr : World) : Prop where
  rd : ∃ A c, RdX w0 C wr p s1 A c
  own : OwnHN wr w.heap.size v m1
  kids : NdsV wr (fun k => w.heap.size ≤ k ∧ some k ≠ v.ownBlock) l1 m1
  fr : FrX C p w wr
  lo : w0.heap.size ≤ w.heap.size
theorem CoR.read {v : Value} {s1 s2 : Xml.St} {l1 : List Xml.Nd} {m1 : List NC} {wr w' : World} {A1 : Option Addr} {c1 : Nat} (h : CoR w0 C w p v s1 l1 m1 wr) (r : RdX w0 C w' p s2 A1 c1) (f : FrX C p wr w') : CoR w0 C w p v s2 l1 m1 w' := by
  obtain ⟨A2, c2, q⟩ := h.rd
  exact ⟨⟨A1, c1, r⟩, f.row h.own (Held.ne_row q.blk h.own (by decide)) (by decide), NdsV.keep (f.keepN q.blk (fun k hk => hk)) l1 m1 h.kids, h.fr.trans f, h.lo⟩
theorem CoR.under {v : Value} {s1 : Xml.St} {l1 : List Xml.Nd} {m1 : List NC} {wr w' : World} (h : CoR w0 C w p v s1 l1 m1 wr) (k : Below wr.heap.size wr w') : CoR w0 C w p v s1 l1 m1 w' := by
  obtain ⟨A2, c2, q⟩ := h.rd
  exact h.read (q.under k) (FrX.under k)
/-- A node more. -/
theorem CoR.push {v v' : Value} {s1 : Xml.St} {l1 : List Xml.Nd} {m1 : List NC} {wr w' : World} (h : CoR w0 C w p v s1 l1 m1 wr) {d : Xml.Nd} {n : NC} (hn : NdV wr (fun k => w.heap.size ≤ k ∧ some k ≠ v.ownBlock) d n) (ho : OwnHN w' w.heap.size v' (m1 ++ [n])) (hg : wr.grownBy w' v.ownBlock) (hv : v'.ownBlock = v.ownBlock ∨ v'.ownBlock = some wr.heap.size) : CoR w0 C w p v' s1 (l1 ++ [d]) (m1 ++ [n]) w' := by
  obtain ⟨A2, c2, q⟩ := h.rd
  have hr : ∀ k, v.ownBlock = some k → w.heap.size ≤ k := fun k e => (h.own.lt k e).1
  have KG : KeepN wr w' (fun k => w.heap.size ≤ k ∧ some k ≠ v.ownBlock) (fun k => w.heap.size ≤ k ∧ some k ≠ v'.ownBlock) := KeepN.grown hg (fun k hk hlt => ⟨hk.2, hk.1, fun e => by
    rcases hv with h1 | h1
    · exact hk.2 (e.trans h1)
    · rw [h1] at e
      have := Option.some.inj e
      omega⟩)
  have lo := h.lo
  have fs := h.fr.size
  refine ⟨⟨A2, c2, q.env, q.l0, q.lC, ?_, Nat.le_trans q.sz hg.size, ?_, ?_⟩, ho, NdsV.snoc (NdsV.keep KG l1 m1 h.kids) (NdV.keep KG d n hn), ⟨hg.os.trans h.fr.os, hg.tape.trans h.fr.tape, hg.output.trans h.fr.output, Nat.le_trans h.fr.size hg.size, fun k hk hne hf => ?_⟩, h.lo⟩
  · exact q.bel.trans ⟨hg.os, hg.tape, hg.output, hg.size, fun k hk => hg.block k (by have := q.bel.size; omega) (fun e => by have := hr k e.symm; omega)⟩
  · exact (hg.block p q.blk.lt (fun e => Held.ne_row q.blk h.own (by decide) p e.symm rfl)).trans q.blk
  · refine World.ownsRow.kept q.row hg ?_
    rcases hq : (Value.slice A2 s1.spaces.length c2).ownBlock with _ | g
    · exact .inl rfl
    · exact .inr (fun e => rows_ne q.row h.own (by decide) g hq e.symm)
  · exact (hg.block k (Nat.lt_of_lt_of_le hk h.fr.size) (fun e => by have := hr k e.symm; omega)).trans (h.fr.block k hk hne hf)
theorem CoR.text {v : Value} {wr : World} (t : Reply.B) : NdV wr (fun k => w.heap.size ≤ k ∧ some k ≠ v.ownBlock) (.mk t [] [] [] []) ⟨t, [], [], .slice none 0 0, .slice none 0 0⟩ := by
  unfold NdV
  exact ⟨rfl, rfl, rfl, OwnHA.nil _ _, fun g e => (by cases e), [], OwnHN.nil _ _, fun g e => (by cases e), (by unfold NdsV; rfl)⟩
def CoI (w0 : World) (C : Nat) (w : World) (p f : Nat) (R : Xml.Res (List Xml.Nd)) (v : Value) (wr : World) : Prop := ∃ s1 f1 l1 m1, CoR w0 C w p v s1 l1 m1 wr ∧ s1.rest.length + 2 ≤ f1 ∧ f1 ≤ f ∧ m1.length + s1.rest.length ≤ 65536 ∧ s1.spaces.length + s1.rest.length ≤ 70000 ∧ R = Xml.content f1 s1 l1
theorem CoR.ends {v : Value} {s1 : Xml.St} {l1 : List Xml.Nd} {m1 : List NC} {wr : World} {R : Xml.Res (List Xml.Nd)} (h : CoR w0 C w p v s1 l1 m1 wr) (hR : R = .ok l1 s1) : EndsK w0 C p w.heap.size R (.returned v) wr := by
  obtain ⟨A2, c2, q⟩ := h.rd
  exact EndsK.ok hR h.own (NdsV.mono (fun k hk => hk.1) h.kids) q
set_option maxRecDepth 100000 in
set_option maxHeartbeats 16000000 in
theorem contX_step (FO : FoldX) (NU : NumX) (IX : IdxX) (RU : RuneX) (f : Nat) (EL : ∀ g, g < f → ElemC g) : ContC f := by
  intro w0 w C p s A c h hr hf
  have HF := Lib.hid FO
  have HN := Lib.hid NU
  have HI := Lib.hid IX
  have HR := Lib.hid RU
  have HE := Lib.hid EL
  obtain ⟨R, hR⟩ : ∃ x, x = Xml.content f s [] := ⟨_, rfl⟩
  have M0 : Hid (CoI w0 C w p f R (.slice none 0 0) w) := ⟨s, f, [], [], ⟨⟨A, c, h⟩, OwnHN.nil _ _, by unfold NdsV; rfl, FrX.refl _ _ _, h.bel.size⟩, hf, Nat.le_refl _, by simpa using hr.few, hr.all, hR⟩
  rw [← hR]
  clear h FO NU IX RU EL hR hf hr
  go_enter Tryz.func47, Tryz.ntmps47
  go_wp2_with fail
  go_loopw [3] (fun v3 wr => ∃ (A3 : Option Addr) (on c3 : Nat), v3 = .slice A3 on c3 ∧ Hid (CoI w0 C w p f R (.slice A3 on c3) wr)) (fun _ wr => restN wr p)
  case atStart => exact ⟨none, 0, 0, rfl, M0⟩
  case round =>
    clear M0
    obtain ⟨A3, on, c3, rfl, s1, f1, l1, m1, T1, z1, z2, z3, z4, hR⟩ := hrel
    obtain ⟨f2, rfl⟩ : ∃ k, f1 = k + 1 := ⟨f1 - 1, by omega⟩
    have T1 := Lib.hid T1
    obtain ⟨A1, c1, r1⟩ := T1.out.rd
    have R1 := Lib.hid r1
    have RN := Lib.hid (restN_is r1)
    have E := Lib.hid (hR.trans (Xml.content_eq f2 s1 l1))
    have TX := Lib.hid (textX_any HF.out HN.out HI.out HR.out r1 (by omega) f2 (by omega))
    clear hR r1
    go_wp2_with fail
    refine TX.out.mono ?_
    rintro e w2 ⟨f2', X2⟩
    have G2 := Lib.hid f2'
    clear f2' TX
    cases hu : Xml.text f2 s1 [] with
    | bad n =>
      rw [hu] at X2 E
      obtain rfl := X2
      exact ⟨rfl, T1.out.fr.trans G2.out, EndsK.bad E.out⟩
    | ok t s2 =>
      rw [hu] at X2 E
      obtain ⟨rfl, r2⟩ := X2
      have k2 := Xml.text_ok f2 hu
      have T2 := Lib.hid (T1.out.read r2 G2.out)
      have R2 := Lib.hid r2
      have z4' : s2.spaces.length + s2.rest.length ≤ 70000 := by rw [k2.2]; omega
      have E : Hid (R = if Lib.hasPrefix s2.rest [60, 47] then .ok (if t = [] then l1 else l1 ++ [.mk t [] [] [] []]) s2 else (Xml.element f2 s2).then fun n s => Xml.content f2 s ((if t = [] then l1 else l1 ++ [.mk t [] [] [] []]) ++ [n])) := E.out
      clear r2 G2 hu T1 R1
      have em : (S t).toList.isEmpty = decide (t = []) := emptyX t
      by_cases ht : t = []
      · rw [decide_eq_true ht] at em
        rw [if_pos ht] at E
        clear ht
        have c2 : w2.cell? ⟨p, 0, none⟩ = some (.string (S s2.rest)) := R2.out.blk.cell 0
        have HP := Lib.hid (fun u => hasprefX_any u s2.rest [60, 47] ⟨#[60, 47]⟩ rfl)
        go_wp2_with fail
        refine (HP.out _).mono ?_
        rintro e w8 ⟨rfl, rfl⟩
        clear HP
        cases hp : Lib.hasPrefix s2.rest [60, 47] with
        | true =>
          rw [if_pos hp] at E
          go_wp2_with fail
          go_ret
          exact ⟨T2.out.fr, T2.out.ends E.out⟩
        | false =>
          rw [if_neg (by rw [hp]; simp)] at E
          have EL := Lib.hid (HE.out f2 (by omega) w0 w2 C p s2 _ _ R2.out ⟨by omega, z4'⟩ (by omega))
          have G0 : ∀ g, (Value.slice A3 on c3).ownBlock = some g → g < w2.heap.size := fun g hg => (T2.out.own.lt g hg).2
          have G0 := Lib.hid G0
          have S0 : Hid (w.heap.size ≤ w2.heap.size) := T2.out.fr.size
          go_wp2_with fail
          refine EL.out.mono ?_
          rintro e w4 ⟨f4, X4⟩
          have G4 := Lib.hid f4
          clear f4 EL c2
          cases hu : Xml.element f2 s2 with
          | bad n =>
            rw [hu] at X4 E
            obtain rfl := X4
            exact ⟨rfl, T2.out.fr.trans G4.out, EndsK.bad E.out⟩
          | ok nd s4 =>
            rw [hu] at X4 E
            obtain ⟨⟨t9, sp9, nm9, va9, vk9⟩, X4, nv4, A4', c4', r4⟩ := X4
            have X4 : e = .returned (.agg #[.string (S t9), .string (S sp9), .string (S nm9), va9, vk9]) := X4
            obtain ⟨⟨Aq, kq, cq, hq⟩, Ar, kr, cr, hr⟩ := nv4.slices
            have hq : va9 = .slice Aq kq cq := hq
            have hr : vk9 = .slice Ar kr cr := hr
            subst X4 hq hr
            have k4 := Xml.element_ok f2 hu
            have T4 := Lib.hid (T2.out.read r4 G4.out)
            have z5 : s4.spaces.length + s4.rest.length ≤ 70000 := by rw [k4.2]; omega
            have E : Hid (R = Xml.content f2 s4 (l1 ++ [nd])) := E.out
            have N4 : Hid (NdV w4 (fun k => w.heap.size ≤ k ∧ some k ≠ (Value.slice A3 on c3).ownBlock) nd ⟨t9, sp9, nm9, .slice Aq kq cq, .slice Ar kr cr⟩) := nv4.mono (fun k hk => ⟨Nat.le_trans S0.out hk, fun e => by
              have := G0.out k e.symm
              have hk : w2.heap.size ≤ k := hk
              omega⟩)
            clear r4 G4 hu T2 R2 nv4 G0 S0
            have AU : Hid (Below w4.heap.size w4 (w4.alloc (.cells #[.string (S t9), .string (S sp9), .string (S nm9), .slice Aq kq cq, .slice Ar kr cr] 28))) := (Below.refl _ _).alloc (Nat.le_refl _) _
            have TU := Lib.hid (T4.out.under AU.out)
            have NU := Lib.hid (NdV.keep (KeepN.below AU.out (fun k hk => hk)) _ _ N4.out)
            go_wp2_with (at_builtin; refine wpList_append_hN rfl _ _ rfl w.heap.size _ m1 rfl TU.out.own ⟨w4.heap.size, 0, none⟩ 1 1 [⟨t9, sp9, nm9, .slice Aq kq cq, .slice Ar kr cr⟩] rfl rfl ?qf ?qa ?qb ?qc ?_)
            case qf =>
              intro x hx
              have : x = ⟨t9, sp9, nm9, .slice Aq kq cq, .slice Ar kr cr⟩ := by simpa using hx
              subst this
              exact ⟨⟨_, _, _, rfl⟩, _, _, _, rfl⟩
            case qa => exact head_oneN w4 ⟨t9, sp9, nm9, .slice Aq kq cq, .slice Ar kr cr⟩ 28 (0, 0) _ rfl
            case qb => omega
            case qc => exact TU.out.fr.size
            intro v' w5 hown hg hv
            have T5 := Lib.hid (TU.out.push NU.out hown hg (hv.imp id fun e => e.trans (by simp)))
            obtain ⟨A5, c5, rfl, _⟩ := hown.any
            obtain ⟨m5, hm5⟩ : ∃ x, x = m1 ++ [⟨t9, sp9, nm9, .slice Aq kq cq, .slice Ar kr cr⟩] := ⟨_, rfl⟩
            have ml5 : m5.length = m1.length + 1 := by rw [hm5]; simp
            rw [← hm5] at T5 ⊢
            obtain ⟨tn5, htn5⟩ : ∃ x, x = m5.length := ⟨_, rfl⟩
            rw [← htn5] at T5 ⊢
            have M9 : Hid (CoI w0 C w p f R (.slice A5 tn5 c5) w5) := ⟨s4, f2, _, m5, T5.out, by omega, by omega, by omega, z5, E.out⟩
            have MS : Hid (restN w5 p < restN wr p) := by
              obtain ⟨A9', c9', r9'⟩ := T5.out.rd
              show _ < _
              rw [RN.out, restN_is r9']
              omega
            clear hown hg hv AU TU NU T4 N4 hm5 htn5
            go_wp2_with fail
            go_roundw
            case rel => exact ⟨A5, tn5, c5, rfl, M9⟩
            case measure => exact MS.out
      · rw [decide_eq_false ht] at em
        rw [if_neg ht] at E
        clear ht
        have AU : Hid (Below w2.heap.size w2 (w2.alloc (.cells #[.string (S t), .string ⟨#[]⟩, .string ⟨#[]⟩, .slice none 0 0, .slice none 0 0] 28))) := (Below.refl _ _).alloc (Nat.le_refl _) _
        have TU := Lib.hid (T2.out.under AU.out)
        go_wp2_with (at_builtin; refine wpList_append_hN rfl _ _ rfl w.heap.size _ m1 rfl TU.out.own ⟨w2.heap.size, 0, none⟩ 1 1 [⟨t, [], [], .slice none 0 0, .slice none 0 0⟩] rfl rfl ?qf ?qa ?qb ?qc ?_)
        case qf =>
          intro x hx
          have : x = ⟨t, [], [], .slice none 0 0, .slice none 0 0⟩ := by simpa using hx
          subst this
          exact ⟨⟨_, _, _, rfl⟩, _, _, _, rfl⟩
        case qa => exact head_oneN w2 ⟨t, [], [], .slice none 0 0, .slice none 0 0⟩ 28 (0, 0) _ rfl
        case qb => omega
        case qc => exact TU.out.fr.size
        intro v' w3 hown hg hv
        have T3 := Lib.hid (TU.out.push (CoR.text t) hown hg (hv.imp id fun e => e.trans (by simp)))
        obtain ⟨A4, c4, rfl, _⟩ := hown.any
        obtain ⟨tn, htn⟩ : ∃ x, x = (m1 ++ [⟨t, [], [], .slice none 0 0, .slice none 0 0⟩] : List NC).length := ⟨_, rfl⟩
        rw [← htn] at T3 ⊢
        obtain ⟨l3, hl3⟩ : ∃ x, x = l1 ++ [.mk t [] [] [] []] := ⟨_, rfl⟩
        obtain ⟨m3, hm3⟩ : ∃ x, x = m1 ++ [⟨t, [], [], .slice none 0 0, .slice none 0 0⟩] := ⟨_, rfl⟩
        have ml3 : m3.length = m1.length + 1 := by rw [hm3]; simp
        rw [← hl3] at T3 E
        rw [← hm3] at T3
        clear hown hg hv AU TU htn hl3 hm3 T2 R2
        obtain ⟨A9, c9, r9⟩ := T3.out.rd
        have R3 := Lib.hid r9
        clear r9
        have c2 : w3.cell? ⟨p, 0, none⟩ = some (.string (S s2.rest)) := R3.out.blk.cell 0
        have HP := Lib.hid (fun u => hasprefX_any u s2.rest [60, 47] ⟨#[60, 47]⟩ rfl)
        go_wp2_with fail
        refine (HP.out _).mono ?_
        rintro e w8 ⟨rfl, rfl⟩
        clear HP
        cases hp : Lib.hasPrefix s2.rest [60, 47] with
        | true =>
          rw [if_pos hp] at E
          go_wp2_with fail
          go_ret
          exact ⟨T3.out.fr, T3.out.ends E.out⟩
        | false =>
          rw [if_neg (by rw [hp]; simp)] at E
          have EL := Lib.hid (HE.out f2 (by omega) w0 w3 C p s2 _ _ R3.out ⟨by omega, z4'⟩ (by omega))
          have G0 : ∀ g, (Value.slice A4 tn c4).ownBlock = some g → g < w3.heap.size := fun g hg => (T3.out.own.lt g hg).2
          have G0 := Lib.hid G0
          have S0 : Hid (w.heap.size ≤ w3.heap.size) := T3.out.fr.size
          go_wp2_with fail
          refine EL.out.mono ?_
          rintro e w4 ⟨f4, X4⟩
          have G4 := Lib.hid f4
          clear f4 EL c2
          cases hu : Xml.element f2 s2 with
          | bad n =>
            rw [hu] at X4 E
            obtain rfl := X4
            exact ⟨rfl, T3.out.fr.trans G4.out, EndsK.bad E.out⟩
          | ok nd s4 =>
            rw [hu] at X4 E
            obtain ⟨⟨t9, sp9, nm9, va9, vk9⟩, X4, nv4, A4', c4', r4⟩ := X4
            have X4 : e = .returned (.agg #[.string (S t9), .string (S sp9), .string (S nm9), va9, vk9]) := X4
            obtain ⟨⟨Aq, kq, cq, hq⟩, Ar, kr, cr, hr⟩ := nv4.slices
            have hq : va9 = .slice Aq kq cq := hq
            have hr : vk9 = .slice Ar kr cr := hr
            subst X4 hq hr
            have k4 := Xml.element_ok f2 hu
            have T4 := Lib.hid (T3.out.read r4 G4.out)
            have z5 : s4.spaces.length + s4.rest.length ≤ 70000 := by rw [k4.2]; omega
            have E : Hid (R = Xml.content f2 s4 (l3 ++ [nd])) := E.out
            have N4 : Hid (NdV w4 (fun k => w.heap.size ≤ k ∧ some k ≠ (Value.slice A4 tn c4).ownBlock) nd ⟨t9, sp9, nm9, .slice Aq kq cq, .slice Ar kr cr⟩) := nv4.mono (fun k hk => ⟨Nat.le_trans S0.out hk, fun e => by
              have := G0.out k e.symm
              have hk : w3.heap.size ≤ k := hk
              omega⟩)
            clear r4 G4 hu T3 R3 nv4 G0 S0
            have AU : Hid (Below w4.heap.size w4 (w4.alloc (.cells #[.string (S t9), .string (S sp9), .string (S nm9), .slice Aq kq cq, .slice Ar kr cr] 28))) := (Below.refl _ _).alloc (Nat.le_refl _) _
            have TU := Lib.hid (T4.out.under AU.out)
            have NU := Lib.hid (NdV.keep (KeepN.below AU.out (fun k hk => hk)) _ _ N4.out)
            go_wp2_with (at_builtin; refine wpList_append_hN rfl _ _ rfl w.heap.size _ m3 rfl TU.out.own ⟨w4.heap.size, 0, none⟩ 1 1 [⟨t9, sp9, nm9, .slice Aq kq cq, .slice Ar kr cr⟩] rfl rfl ?qf ?qa ?qb ?qc ?_)
            case qf =>
              intro x hx
              have : x = ⟨t9, sp9, nm9, .slice Aq kq cq, .slice Ar kr cr⟩ := by simpa using hx
              subst this
              exact ⟨⟨_, _, _, rfl⟩, _, _, _, rfl⟩
            case qa => exact head_oneN w4 ⟨t9, sp9, nm9, .slice Aq kq cq, .slice Ar kr cr⟩ 28 (0, 0) _ rfl
            case qb => omega
            case qc => exact TU.out.fr.size
            intro v' w5 hown hg hv
            have T5 := Lib.hid (TU.out.push NU.out hown hg (hv.imp id fun e => e.trans (by simp)))
            obtain ⟨A5, c5, rfl, _⟩ := hown.any
            obtain ⟨m5, hm5⟩ : ∃ x, x = m3 ++ [⟨t9, sp9, nm9, .slice Aq kq cq, .slice Ar kr cr⟩] := ⟨_, rfl⟩
            have ml5 : m5.length = m3.length + 1 := by rw [hm5]; simp
            rw [← hm5] at T5 ⊢
            obtain ⟨tn5, htn5⟩ : ∃ x, x = m5.length := ⟨_, rfl⟩
            rw [← htn5] at T5 ⊢
            have M9 : Hid (CoI w0 C w p f R (.slice A5 tn5 c5) w5) := ⟨s4, f2, _, m5, T5.out, by omega, by omega, by omega, z5, E.out⟩
            have MS : Hid (restN w5 p < restN wr p) := by
              obtain ⟨A9', c9', r9'⟩ := T5.out.rd
              show _ < _
              rw [RN.out, restN_is r9']
              omega
            clear hown hg hv AU TU NU T4 N4 hm5 htn5
            go_wp2_with fail
            go_roundw
            case rel => exact ⟨A5, tn5, c5, rfl, M9⟩
            case measure => exact MS.out
end
end Go.Proofs.YteefjmdallpihaaGreatDoor
