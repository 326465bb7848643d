/-
  reply: the reader: headers.
-/
import Derived.Test.YtdojchamdcokiaaDoorR19
namespace Go.Proofs.YtdojchamdcokiaaDoor
open Go.RowKit Reply

theorem RS.keep {w0 w w' : World} {p B' : Nat} {l : B} {lost : Bool} (h : RS w0 w p l lost) (k : Below B' w w') (hp : p < B') (h0 : w0.heap.size ≤ B') : RS w0 w' p l lost :=
  ⟨h.env, h.lo, h.bel.trans (k.mono h0), Held.below h.blk k hp⟩
theorem Only.keep {F : List Nat} {w a b : World} (h : Only F w a) (k : Below w.heap.size a b) : Only F w b :=
  ⟨k.os.trans h.os, k.tape.trans h.tape, k.output.trans h.output, Nat.le_trans h.size k.size, fun i hi hn => (k.block i hi).trans (h.block i hi hn)⟩
theorem hdr1_yes {l : B} (h : ((Lib.cut l crlf).2.2 && (Lib.cut (Lib.cut l crlf).1 colon).2.2 && hdr ((Lib.cut (Lib.cut l crlf).1 colon).1, (Lib.cut (Lib.cut l crlf).1 colon).2.1)) = true) :
    hdr1 l = some (((Lib.cut (Lib.cut l crlf).1 colon).1, (Lib.cut (Lib.cut l crlf).1 colon).2.1), (Lib.cut l crlf).2.1) := by unfold hdr1; rw [if_pos h]
theorem hdr1_not {l : B} (h : ((Lib.cut l crlf).2.2 && (Lib.cut (Lib.cut l crlf).1 colon).2.2 && hdr ((Lib.cut (Lib.cut l crlf).1 colon).1, (Lib.cut (Lib.cut l crlf).1 colon).2.1)) = false) : hdr1 l = none := by unfold hdr1; rw [if_neg (by rw [h]; exact Bool.false_ne_true)]
/-- Some headers are taken off; the others are those that stand ahead of the rest. -/
def Some_ (l l' : B) (done : List (B × B)) : Prop := done.length ≤ 32 ∧ l'.length ≤ l.length ∧ (hdrs 32 l).1 = done ++ (hdrs (32 - done.length) l').1 ∧ (hdrs 32 l).2 = (hdrs (32 - done.length) l').2
theorem Some_.start (l : B) : Some_ l l [] := ⟨by simp, Nat.le_refl _, rfl, rfl⟩
theorem Some_.next {l l' z : B} {done : List (B × B)} {h : B × B} (s : Some_ l l' done) (hd : done.length < 32) (e : hdr1 l' = some (h, z)) (hz : z.length ≤ l'.length) : Some_ l z (done ++ [h]) := by
  obtain ⟨a, b, c, d⟩ := s
  have m : 32 - done.length = (32 - (done ++ [h]).length) + 1 := by simp; omega
  have e2 : ∀ n, hdrs (n + 1) l' = (h :: (hdrs n z).1, (hdrs n z).2) := fun n => by rw [hdrs, e]
  rw [m, e2] at c d
  refine ⟨by simp; omega, Nat.le_trans hz b, ?_, d⟩
  rw [c, List.append_assoc]
  rfl
theorem Some_.stop {l l' : B} {done : List (B × B)} (s : Some_ l l' done) (e : hdr1 l' = none) : done = (hdrs 32 l).1 ∧ l' = (hdrs 32 l).2 := by
  obtain ⟨a, b, c, d⟩ := s
  rw [hdrs_none e] at c d
  exact ⟨by rw [c]; simp, d.symm⟩
theorem Some_.full {l l' : B} {done : List (B × B)} (s : Some_ l l' done) (e : ¬ done.length < 32) : done = (hdrs 32 l).1 ∧ l' = (hdrs 32 l).2 := by
  obtain ⟨a, b, c, d⟩ := s
  have m : 32 - done.length = 0 := by omega
  rw [m, hdrs] at c d
  exact ⟨by rw [c]; simp, d.symm⟩
/-- What headers answers. -/
def HeadE (w w' : World) (l : B) (v : Value) : Prop := OwnH w' w.heap.size v (hdrs 32 l).1 ∧ ∃ A c, v = .slice A (hdrs 32 l).1.length c
set_option maxRecDepth 100000 in
set_option maxHeartbeats 8000000 in
theorem fheaders_any (w0 w : World) (p : Nat) (l : B) (lost : Bool) (h : RS w0 w p l lost) (hl : l.length ≤ 1073741824) :
    Calls Tryd.prog 17 #[.pointer (some ⟨p, 0, none⟩)] w fun e w' => (∃ v, e = .returned v ∧ HeadE w w' l v) ∧ RS w0 w' p (hdrs 32 l).2 lost ∧ Only [p] w w' := by
  have H := Lib.hid h
  have HP : Hid (p < w.heap.size) := h.blk.lt
  have H0 : Hid (w0.heap.size ≤ w.heap.size) := h.bel.size
  clear h
  go_enter Tryd.func17, Tryd.ntmps17
  go_wp2_with fail
  go_loopw [3, 4, 5, 6, 7, 8, 9, 10] (fun v _ _ _ _ _ _ _ wr => ∃ (done : List (B × B)) (l' : B) (A : Option Addr) (c : Nat), v = .slice A done.length c ∧ Hid (Some_ l l' done) ∧ Hid (OwnH wr w.heap.size (.slice A done.length c) done) ∧ Hid (RS w0 wr p l' lost) ∧ Hid (Only [p] w wr)) (fun v _ _ _ _ _ _ _ _ => match v with | .slice _ n _ => 32 - n | _ => 0)
  case atStart => exact ⟨[], l, none, 0, rfl, Some_.start l, OwnH.nil _ _, H, Only.refl _ _⟩
  case round =>
    obtain ⟨done, l', A, c, rfl, HS, HO, HR, HY⟩ := hrel
    have d32 : done.length ≤ 32 := HS.out.1
    have l8 : l'.length ≤ 1073741824 := by have := HS.out.2.1; omega
    have c0 := HR.out.blk.cell 0
    by_cases hlt : done.length < 32
    · have hlz : (done.length : Int) < 32 := by omega
      have CU := Lib.hid (cut_any wr HR.out.envw l' crlf (by omega))
      obtain ⟨ln, hln⟩ : ∃ x, x = (Lib.cut l' crlf).1 := ⟨_, rfl⟩
      have lnz : ln.length ≤ 1073741824 := by rw [hln]; have := cut_len l' crlf; omega
      have CO := Lib.hid (fun u (E : Env u) => cut_any u E ln colon (by omega))
      obtain ⟨rs, hrs⟩ : ∃ x, x = (Lib.cut l' crlf).2.1 := ⟨_, rfl⟩
      have rsz : rs.length ≤ l'.length := by rw [hrs]; exact cut_len2 l' crlf
      obtain ⟨en, hen⟩ : ∃ x, x = (Lib.cut l' crlf).2.2 := ⟨_, rfl⟩
      obtain ⟨nm, hnm⟩ : ∃ x, x = (Lib.cut ln colon).1 := ⟨_, rfl⟩
      obtain ⟨vl, hvl⟩ : ∃ x, x = (Lib.cut ln colon).2.1 := ⟨_, rfl⟩
      obtain ⟨nd, hnd⟩ : ∃ x, x = (Lib.cut ln colon).2.2 := ⟨_, rfl⟩
      have nmz : nm.length ≤ 1073741824 := by rw [hnm]; have := cut_len ln colon; omega
      have vlz : vl.length ≤ 1073741824 := by rw [hvl]; have := cut_len2 ln colon; omega
      have YES : Hid ((en && nd && hdr (nm, vl)) = true → hdr1 l' = some ((nm, vl), rs)) := fun hy => by
        have := hdr1_yes (l := l') (by rw [← hln, ← hen, ← hnd, ← hnm, ← hvl]; exact hy)
        rw [this, ← hln, ← hnm, ← hvl, ← hrs]
      have NOT : Hid ((en && nd && hdr (nm, vl)) = false → hdr1 l' = none) := fun hy => hdr1_not (by rw [← hln, ← hen, ← hnd, ← hnm, ← hvl]; exact hy)
      have IH := Lib.hid (fun u => isheader_any u (nm, vl) nmz vlz)
      unfold hV at IH
      rw [← hln, ← hrs, ← hen] at CU
      rw [← hnm, ← hvl, ← hnd] at CO
      clear hln hrs hen hnm hvl hnd
      cases en
      · skip
        go_wp2_with fail
        refine CU.out.mono ?_
        rintro e w1 ⟨rfl, hb1⟩
        have R1 := Lib.hid (HR.out.under hb1)
        have O1 := Lib.hid (HO.out.below hb1)
        have Y1 := Lib.hid (HY.out.under hb1)
        clear hb1 CU
        go_wp2_with fail
        refine (CO.out _ R1.out.envw).mono ?_
        rintro e w2 ⟨rfl, hb2⟩
        have R2 := Lib.hid (R1.out.under hb2)
        have O2 := Lib.hid (O1.out.below hb2)
        have Y2 := Lib.hid (Y1.out.under hb2)
        clear hb2 CO
        have A2 : Hid (Below w2.heap.size w2 (w2.alloc (.cells #[.string (S nm), .string (S vl)] 37))) := (Below.refl _ _).alloc (Nat.le_refl _) _
        have R3 := Lib.hid (R2.out.under A2.out)
        have O3 := Lib.hid (O2.out.below A2.out)
        have Y3 := Lib.hid (Y2.out.under A2.out)
        have FU := Lib.hid (HS.out.stop (NOT.out (by rfl)))
        have FR : Hid (RS w0 (w2.alloc (.cells #[.string (S nm), .string (S vl)] 37)) p (hdrs 32 l).2 lost) := by show RS _ _ _ _ _; rw [← FU.out.2]; exact R3.out
        have FH : Hid (HeadE w (w2.alloc (.cells #[.string (S nm), .string (S vl)] 37)) l (.slice A done.length c)) := by show HeadE _ _ _ _; unfold HeadE; rw [← FU.out.1]; exact ⟨O3.out, _, _, rfl⟩
        clear hlz
        go_wp2_with fail
        go_ret
        exact ⟨⟨_, rfl, FH.out⟩, FR.out, Y3.out⟩
      · cases nd
        · skip
          go_wp2_with fail
          refine CU.out.mono ?_
          rintro e w1 ⟨rfl, hb1⟩
          have R1 := Lib.hid (HR.out.under hb1)
          have O1 := Lib.hid (HO.out.below hb1)
          have Y1 := Lib.hid (HY.out.under hb1)
          clear hb1 CU
          go_wp2_with fail
          refine (CO.out _ R1.out.envw).mono ?_
          rintro e w2 ⟨rfl, hb2⟩
          have R2 := Lib.hid (R1.out.under hb2)
          have O2 := Lib.hid (O1.out.below hb2)
          have Y2 := Lib.hid (Y1.out.under hb2)
          clear hb2 CO
          have A2 : Hid (Below w2.heap.size w2 (w2.alloc (.cells #[.string (S nm), .string (S vl)] 37))) := (Below.refl _ _).alloc (Nat.le_refl _) _
          have R3 := Lib.hid (R2.out.under A2.out)
          have O3 := Lib.hid (O2.out.below A2.out)
          have Y3 := Lib.hid (Y2.out.under A2.out)
          have FU := Lib.hid (HS.out.stop (NOT.out (by rfl)))
          have FR : Hid (RS w0 (w2.alloc (.cells #[.string (S nm), .string (S vl)] 37)) p (hdrs 32 l).2 lost) := by show RS _ _ _ _ _; rw [← FU.out.2]; exact R3.out
          have FH : Hid (HeadE w (w2.alloc (.cells #[.string (S nm), .string (S vl)] 37)) l (.slice A done.length c)) := by show HeadE _ _ _ _; unfold HeadE; rw [← FU.out.1]; exact ⟨O3.out, _, _, rfl⟩
          clear hlz
          go_wp2_with fail
          go_ret
          exact ⟨⟨_, rfl, FH.out⟩, FR.out, Y3.out⟩
        · cases t1 : hdr (nm, vl)
          · have T1 := Lib.hid t1
            rw [t1] at IH
            clear t1
            go_wp2_with fail
            refine CU.out.mono ?_
            rintro e w1 ⟨rfl, hb1⟩
            have R1 := Lib.hid (HR.out.under hb1)
            have O1 := Lib.hid (HO.out.below hb1)
            have Y1 := Lib.hid (HY.out.under hb1)
            clear hb1 CU
            go_wp2_with fail
            refine (CO.out _ R1.out.envw).mono ?_
            rintro e w2 ⟨rfl, hb2⟩
            have R2 := Lib.hid (R1.out.under hb2)
            have O2 := Lib.hid (O1.out.below hb2)
            have Y2 := Lib.hid (Y1.out.under hb2)
            clear hb2 CO
            have A2 : Hid (Below w2.heap.size w2 (w2.alloc (.cells #[.string (S nm), .string (S vl)] 37))) := (Below.refl _ _).alloc (Nat.le_refl _) _
            have R3 := Lib.hid (R2.out.under A2.out)
            have O3 := Lib.hid (O2.out.below A2.out)
            have Y3 := Lib.hid (Y2.out.under A2.out)
            go_wp2_with fail
            refine (IH.out _).mono ?_
            rintro e w4 ⟨rfl, hb4⟩
            have R4 := Lib.hid (R3.out.under hb4)
            have O4 := Lib.hid (O3.out.below hb4)
            have Y4 := Lib.hid (Y3.out.under hb4)
            clear hb4 IH
            have FU := Lib.hid (HS.out.stop (NOT.out (by rw [T1.out]; rfl)))
            have FR : Hid (RS w0 w4 p (hdrs 32 l).2 lost) := by show RS _ _ _ _ _; rw [← FU.out.2]; exact R4.out
            have FH : Hid (HeadE w w4 l (.slice A done.length c)) := by show HeadE _ _ _ _; unfold HeadE; rw [← FU.out.1]; exact ⟨O4.out, _, _, rfl⟩
            clear hlz
            go_wp2_with fail
            go_ret
            exact ⟨⟨_, rfl, FH.out⟩, FR.out, Y4.out⟩
          · have T1 := Lib.hid t1
            rw [t1] at IH
            clear t1
            go_wp2_with fail
            refine CU.out.mono ?_
            rintro e w1 ⟨rfl, hb1⟩
            have R1 := Lib.hid (HR.out.under hb1)
            have O1 := Lib.hid (HO.out.below hb1)
            have Y1 := Lib.hid (HY.out.under hb1)
            clear hb1 CU
            go_wp2_with fail
            refine (CO.out _ R1.out.envw).mono ?_
            rintro e w2 ⟨rfl, hb2⟩
            have R2 := Lib.hid (R1.out.under hb2)
            have O2 := Lib.hid (O1.out.below hb2)
            have Y2 := Lib.hid (Y1.out.under hb2)
            clear hb2 CO
            have A2 : Hid (Below w2.heap.size w2 (w2.alloc (.cells #[.string (S nm), .string (S vl)] 37))) := (Below.refl _ _).alloc (Nat.le_refl _) _
            have R3 := Lib.hid (R2.out.under A2.out)
            have O3 := Lib.hid (O2.out.below A2.out)
            have Y3 := Lib.hid (Y2.out.under A2.out)
            go_wp2_with fail
            refine (IH.out _).mono ?_
            rintro e w4 ⟨rfl, hb4⟩
            have R4 := Lib.hid (R3.out.under hb4)
            have O4 := Lib.hid (O3.out.below hb4)
            have Y4 := Lib.hid (Y3.out.under hb4)
            clear hb4 IH
            have C1 := Lib.hid (fun u => fclone_any u (S nm) (by rw [S_size]; omega))
            have C2 := Lib.hid (fun u => fclone_any u (S vl) (by rw [S_size]; omega))
            go_wp2_with fail
            refine (C1.out _).mono ?_
            rintro e w5 ⟨rfl, hb5⟩
            have R5 := Lib.hid (R4.out.under hb5)
            have O5 := Lib.hid (O4.out.below hb5)
            have Y5 := Lib.hid (Y4.out.under hb5)
            clear hb5 C1
            go_wp2_with fail
            refine (C2.out _).mono ?_
            rintro e w6 ⟨rfl, hb6⟩
            have R6 := Lib.hid (R5.out.under hb6)
            have O6 := Lib.hid (O5.out.below hb6)
            have Y6 := Lib.hid (Y5.out.under hb6)
            clear hb6 C2
            have A6 : Hid (Below w6.heap.size w6 (w6.alloc (.cells #[.string (S nm), .string (S vl)] 37))) := (Below.refl _ _).alloc (Nat.le_refl _) _
            have R7 := Lib.hid (R6.out.under A6.out)
            have O7 := Lib.hid (O6.out.below A6.out)
            have Y7 := Lib.hid (Y6.out.under A6.out)
            have H1 : Hid (HAt (w6.alloc (.cells #[.string (S nm), .string (S vl)] 37)) (some ⟨w6.heap.size, 0, none⟩) [(nm, vl)]) := head_one w6 (S nm) (S vl) _ _ _ rfl
            go_wp2_with (at_builtin; refine wpList_append_h rfl (.tmp 43) (.tmp 49) rfl w.heap.size _ done rfl O7.out ⟨w6.heap.size, 0, none⟩ 1 1 [(nm, vl)] rfl rfl H1.out (by omega) Y7.out.size ?_; intro v8 w8 hown8 hg8; have O8 := Lib.hid hown8; have B8 := Lib.hid (O7.out.grown (Below.refl w.heap.size _) hg8 Y7.out.size); clear hown8 hg8; obtain ⟨A8, c8, rfl, _⟩ := O8.out.any; have R8 := Lib.hid (R7.out.keep B8.out HP.out H0.out); have Y8 := Lib.hid (Y7.out.keep B8.out); have c80 := R8.out.blk.cell 0; have y80 := R8.out.blk.frozen 0)
            have R9 := Lib.hid (R8.out.rest rs)
            have Y9 : Hid (Only [p] w (w8.setCell ⟨p, 0, none⟩ (.string (S rs)))) := Y8.out.trans (only_set p 0 w8 _) (fun x hx => .inl hx)
            have O9 : Hid (OwnH (w8.setCell ⟨p, 0, none⟩ (.string (S rs))) w.heap.size (.slice A8 (done ++ [(nm, vl)]).length c8) (done ++ [(nm, vl)])) := (only_set p 0 w8 _).row O8.out (fun g hg hm => by
              have e1 : g = p := by simpa using hm
              have := (O8.out.lt g hg).1
              have := HP.out
              omega)
            have S9 := Lib.hid (HS.out.next hlt (YES.out (by rw [T1.out]; rfl)) rsz)
            have DL : (done ++ [(nm, vl)]).length = done.length + 1 := by simp
            go_roundw
            case rel => exact ⟨done ++ [(nm, vl)], rs, A8, c8, by rw [DL], S9, O9, R9, Y9⟩
            case measure => show 32 - (done.length + 1) < 32 - done.length; omega
    · have hlz : ¬ (done.length : Int) < 32 := by omega
      have FU := Lib.hid (HS.out.full hlt)
      have FR : Hid (RS w0 wr p (hdrs 32 l).2 lost) := by show RS _ _ _ _ _; rw [← FU.out.2]; exact HR.out
      have FH : Hid (HeadE w wr l (.slice A done.length c)) := by show HeadE _ _ _ _; unfold HeadE; rw [← FU.out.1]; exact ⟨HO.out, _, _, rfl⟩
      clear hlt
      go_wp2_with fail
      go_ret
      exact ⟨⟨_, rfl, FH.out⟩, FR.out, HY.out⟩
end Go.Proofs.YtdojchamdcokiaaDoor
