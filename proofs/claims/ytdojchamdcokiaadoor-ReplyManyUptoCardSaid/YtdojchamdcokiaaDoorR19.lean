/-
  reply: the reader: the length, the body.
-/
import Derived.Test.YtdojchamdcokiaaDoorR18
namespace Go.Proofs.YtdojchamdcokiaaDoor
open Go.RowKit Reply

theorem len_v {l z : B} {k : Nat} (h : lenAt l = some (k, z)) : Lib.atoiAll (Lib.trimPrefix (Lib.cut l crlf).1 lengthName) = .ok (k : Int) := by
  obtain ⟨hk, hl⟩ := lenAt_back h
  have hp : (lenLine k ++ crlf).isPrefixOf l = true := by rw [hl]; exact pre_app _ _
  rw [line_of (lenLine_no k) hp]
  unfold lenLine
  rw [trim_pre, itoa_nat, atoi_dec _ (by omega)]
theorem len_take {l : B} {k : Nat} (hk : k ≤ 65536) (h : (takeLine (lenLine k) l).1 = true) : lenAt l = some (k, (takeLine (lenLine k) l).2) := by
  have hb := takeLine_back h
  have := lenAt_app hk (takeLine (lenLine k) l).2
  rwa [← hb] at this
theorem len_miss {l : B} {v : Int} (hd : ∀ u, Lib.atoiAll (Lib.trimPrefix (Lib.cut l crlf).1 lengthName) = .ok u → v = u) (h : v < 0 ∨ 65536 < v ∨ ∃ k : Nat, v = (k : Int) ∧ (takeLine (lenLine k) l).1 = false) : lenAt l = none := by
  cases e : lenAt l with
  | none => rfl
  | some q =>
    exfalso
    obtain ⟨k, z⟩ := q
    have := hd _ (len_v e)
    obtain ⟨hk, hl⟩ := lenAt_back e
    rcases h with h | h | ⟨j, h1, h2⟩
    · omega
    · omega
    · have : j = k := by omega
      subst this
      rw [hl, takeLine_app] at h2
      cases h2
/-- What size answers, and leaves of the reader. -/
def SizeE (w0 w' : World) (p : Nat) (l : B) (lost : Bool) (v : Int) : Prop :=
  ∃ (l' : B) (lost' : Bool), RS w0 w' p l' lost' ∧ l'.length ≤ l.length ∧ -9223372036854775808 ≤ v ∧ v ≤ 9223372036854775807 ∧ (∀ k z, lenAt l = some (k, z) → v = (k : Nat) ∧ l' = z ∧ lost' = lost) ∧ (lenAt l = none → lost' = true)
theorem or_not_false (b : Bool) : (b || !false) = true := by cases b <;> rfl
theorem or_not_true (b : Bool) : (b || !true) = b := by cases b <;> rfl
set_option maxRecDepth 100000 in
set_option maxHeartbeats 8000000 in
theorem fsize_any (w0 w : World) (p : Nat) (l : B) (lost : Bool) (h : RS w0 w p l lost) (hl : l.length ≤ 1073741824) :
    Calls Tryd.prog 18 #[.pointer (some ⟨p, 0, none⟩)] w fun e w' => (∃ v, e = .returned (.int .i64 v) ∧ SizeE w0 w' p l lost v) ∧ Only [p] w w' := by
  have H := Lib.hid h
  have LI := Lib.hid (line_any w0 w p l lost h hl)
  obtain ⟨ln, hln⟩ : ∃ x, x = (Lib.cut l crlf).1 := ⟨_, rfl⟩
  have lnz : ln.length ≤ 1073741824 := by rw [hln]; have := cut_len l crlf; omega
  have TP := Lib.hid (fun u => trimpre_any u ln lengthName)
  obtain ⟨t, ht⟩ : ∃ x, x = Lib.trimPrefix ln lengthName := ⟨_, rfl⟩
  have tz : t.length ≤ 1073741824 := by rw [ht]; have := trimPre_len ln lengthName; omega
  have AT := Lib.hid (fun u (E : Env u) => atoi_any u E t (by omega))
  have DD : Hid (Lib.atoiAll (Lib.trimPrefix (Lib.cut l crlf).1 lengthName) = Lib.atoiAll t) := by show _ = _; rw [ht, hln]
  rw [← hln] at LI
  rw [← ht] at TP
  clear hln ht h
  go_enter Tryd.func18, Tryd.ntmps18
  go_wp2_with fail
  refine LI.out.mono ?_
  rintro e w1 ⟨rfl, hb1⟩
  have B1 := Lib.hid hb1
  have R1 := Lib.hid (H.out.under hb1)
  clear hb1 LI
  go_wp2_with fail
  refine (TP.out _).mono ?_
  rintro e w' ⟨rfl, rfl⟩
  clear TP
  go_wp2_with fail
  refine (AT.out _ R1.out.envw).mono ?_
  rintro e w3 ⟨⟨v, ev, rfl, v0, v1, hv⟩, hb3⟩
  have B3 := Lib.hid (B1.out.trans (hb3.mono B1.out.size))
  have R3 := Lib.hid (R1.out.under hb3)
  have HV : Hid (∀ u, Lib.atoiAll (Lib.trimPrefix (Lib.cut l crlf).1 lengthName) = .ok u → v = u) := by show ∀ u, _; rw [DD.out]; exact hv
  have V0 := Lib.hid v0
  have V1 := Lib.hid v1
  clear hb3 AT hv v0 v1
  by_cases g0 : v < 0
  · have MI := Lib.hid (len_miss HV.out (.inl g0))
    have f0 : decide ((0 : Int) ≤ v) = false := decide_eq_false (by omega)
    have f0' : ¬ (0 : Int) ≤ v := by omega
    have ND := Lib.hid (fun u k => need_any w0 u p l lost false k)
    clear g0
    go_wp2_with fail
    refine (ND.out _ R3.out).mono ?_
    rintro e w4 ⟨rfl, r4, o4⟩
    have FIN : Hid (SizeE w0 w4 p l lost v) := ⟨l, _, r4, Nat.le_refl _, V0.out, V1.out, (fun s z h => by rw [MI.out] at h; cases h), fun _ => or_not_false lost⟩
    have O4 : Hid (Only [p] w w4) := (Only.of_below B3.out).trans o4 (fun x hx => .inl hx)
    clear r4 o4 ND
    go_wp2_with fail
    go_ret
    exact ⟨⟨v, rfl, FIN.out⟩, O4.out⟩
  · have f0 : decide ((0 : Int) ≤ v) = true := decide_eq_true (by omega)
    have f0' : (0 : Int) ≤ v := by omega
    by_cases g1 : 65536 < v
    · have MI := Lib.hid (len_miss HV.out (.inr (.inl g1)))
      have f1 : decide (v ≤ 65536) = false := decide_eq_false (by omega)
      have f1' : ¬ v ≤ 65536 := by omega
      have ND := Lib.hid (fun u k => need_any w0 u p l lost false k)
      clear g0 g1
      go_wp2_with fail
      refine (ND.out _ R3.out).mono ?_
      rintro e w4 ⟨rfl, r4, o4⟩
      have FIN : Hid (SizeE w0 w4 p l lost v) := ⟨l, _, r4, Nat.le_refl _, V0.out, V1.out, (fun s z h => by rw [MI.out] at h; cases h), fun _ => or_not_false lost⟩
      have O4 : Hid (Only [p] w w4) := (Only.of_below B3.out).trans o4 (fun x hx => .inl hx)
      clear r4 o4 ND
      go_wp2_with fail
      go_ret
      exact ⟨⟨v, rfl, FIN.out⟩, O4.out⟩
    · obtain ⟨k, rfl⟩ : ∃ k : Nat, v = (k : Int) := ⟨v.toNat, by omega⟩
      have hk : k ≤ 65536 := by omega
      have SL := Lib.hid (lengthline_any w3 R3.out.envw k (by omega))
      have TL := Lib.hid (fun u q => takeline_any w0 u p l (lenLine k) lost q (by have := lenLine_len k; omega))
      obtain ⟨sl, hsl⟩ : ∃ x, x = S (lenLine k) := ⟨_, rfl⟩
      rw [← hsl] at SL TL
      have LZ := Lib.hid (takeLine_len (lenLine k) l)
      have f2 : decide ((k : Int) ≤ 65536) = true := decide_eq_true (by omega)
      have f2' : (k : Int) ≤ 65536 := by omega
      cases gt : (takeLine (lenLine k) l).1
      · have MI := Lib.hid (len_miss HV.out (.inr (.inr ⟨k, rfl, gt⟩)))
        rw [gt] at TL
        obtain ⟨lz, hlz⟩ : ∃ x, x = (takeLine (lenLine k) l).2 := ⟨_, rfl⟩
        rw [← hlz] at TL LZ
        have ND := Lib.hid (fun u q => need_any w0 u p lz lost false q)
        clear hsl gt hlz g0 g1 f0
        go_wp2_with fail
        refine SL.out.mono ?_
        rintro e w4 ⟨rfl, hb4⟩
        have B4 := Lib.hid (B3.out.trans (hb4.mono B3.out.size))
        have R4 := Lib.hid (R3.out.under hb4)
        clear hb4 SL
        go_wp2_with fail
        refine (TL.out _ R4.out).mono ?_
        rintro e w5 ⟨rfl, r5, o5⟩
        have R5 := Lib.hid r5
        have O5 : Hid (Only [p] w w5) := (Only.of_below B4.out).trans o5 (fun x hx => .inl hx)
        clear r5 o5 TL
        go_wp2_with fail
        refine (ND.out _ R5.out).mono ?_
        rintro e w6 ⟨rfl, r6, o6⟩
        have FIN : Hid (SizeE w0 w6 p l lost (k : Int)) := ⟨lz, _, r6, LZ.out, V0.out, V1.out, (fun s z h => by rw [MI.out] at h; cases h), fun _ => or_not_false lost⟩
        have O6 : Hid (Only [p] w w6) := O5.out.trans o6 (fun x hx => .inl hx)
        clear r6 o6 ND
        go_wp2_with fail
        go_ret
        exact ⟨⟨_, rfl, FIN.out⟩, O6.out⟩
      · have MI := Lib.hid (len_take hk gt)
        rw [gt] at TL
        obtain ⟨lz, hlz⟩ : ∃ x, x = (takeLine (lenLine k) l).2 := ⟨_, rfl⟩
        rw [← hlz] at TL LZ MI
        have ND := Lib.hid (fun u q => need_any w0 u p lz lost true q)
        clear hsl gt hlz g0 g1 f0
        go_wp2_with fail
        refine SL.out.mono ?_
        rintro e w4 ⟨rfl, hb4⟩
        have B4 := Lib.hid (B3.out.trans (hb4.mono B3.out.size))
        have R4 := Lib.hid (R3.out.under hb4)
        clear hb4 SL
        go_wp2_with fail
        refine (TL.out _ R4.out).mono ?_
        rintro e w5 ⟨rfl, r5, o5⟩
        have R5 := Lib.hid r5
        have O5 : Hid (Only [p] w w5) := (Only.of_below B4.out).trans o5 (fun x hx => .inl hx)
        clear r5 o5 TL
        go_wp2_with fail
        refine (ND.out _ R5.out).mono ?_
        rintro e w6 ⟨rfl, r6, o6⟩
        have FIN : Hid (SizeE w0 w6 p l lost (k : Int)) := ⟨lz, _, r6, LZ.out, V0.out, V1.out, (fun s z h => by
          rw [MI.out] at h
          simp only [Option.some.injEq, Prod.mk.injEq] at h
          exact ⟨by rw [h.1], h.2, or_not_true lost⟩), (fun h => by rw [MI.out] at h; cases h)⟩
        have O6 : Hid (Only [p] w w6) := O5.out.trans o6 (fun x hx => .inl hx)
        clear r6 o6 ND
        go_wp2_with fail
        go_ret
        exact ⟨⟨_, rfl, FIN.out⟩, O6.out⟩
set_option maxRecDepth 100000 in
set_option maxHeartbeats 4000000 in
/-- The body where the reader is lost, or too few bytes are there. -/
theorem body_lost (w0 w : World) (p : Nat) (l : B) (lost : Bool) (v : Int) (h : RS w0 w p l lost) (hv : lost = true ∨ (l.length : Int) < v) :
    Calls Tryd.prog 21 #[.pointer (some ⟨p, 0, none⟩), .int .i64 v] w fun e w' => e = .returned (.string ⟨#[]⟩) ∧ RS w0 w' p l true ∧ Only [p] w w' := by
  have c0 := h.blk.cell 0
  obtain ⟨s, hs⟩ : ∃ x, x = S l := ⟨_, rfl⟩
  have hsz : (s.size : Int) = (l.length : Int) := by rw [hs, S_size]
  obtain ⟨b, hb⟩ : ∃ b, b = decide (v ≤ (s.size : Int)) := ⟨_, rfl⟩
  have hbb : decide (v ≤ (s.size : Int)) = b := hb.symm
  have LT : Hid ((lost || !b) = true) := by
    show _ = _
    rw [hb, hsz]
    rcases hv with h | h
    · rw [h]; rfl
    · rw [decide_eq_false (by omega)]; exact or_not_false lost
  have ND := Lib.hid (need_any w0 w p l lost b h)
  rw [LT.out] at ND
  rw [show (#[Value.string (S l), .bool lost] : Array Value)[0]? = some (.string s) by rw [hs]; rfl] at c0
  clear hs hb h hv hsz
  go_enter Tryd.func21, Tryd.ntmps21
  go_wp2_with fail
  refine ND.out.mono ?_
  rintro e w1 ⟨rfl, r1, o1⟩
  have c1 := r1.blk.cell 1
  have R1 := Lib.hid r1
  have O1 := Lib.hid o1
  clear r1 o1 ND
  go_wp2_with fail
  go_ret
  exact ⟨rfl, R1.out, O1.out⟩
set_option maxRecDepth 100000 in
set_option maxHeartbeats 4000000 in
/-- The body where it is there. -/
theorem body_ok (w0 w : World) (p : Nat) (l : B) (k : Nat) (h : RS w0 w p l false) (hk : k ≤ l.length) (hl : l.length ≤ 1073741824) :
    Calls Tryd.prog 21 #[.pointer (some ⟨p, 0, none⟩), .int .i64 (k : Int)] w fun e w' => e = .returned (.string (S (l.take k))) ∧ RS w0 w' p (l.drop k) false ∧ Only [p] w w' := by
  have c0 := h.blk.cell 0
  obtain ⟨s, hs⟩ : ∃ x, x = S l := ⟨_, rfl⟩
  have hsz : s.size = l.length := by rw [hs, S_size]
  have hbb : decide ((k : Int) ≤ (s.size : Int)) = true := decide_eq_true (by omega)
  have hkz : (k : Int) ≤ (s.size : Int) := by omega
  have hkn : k ≤ s.size := by omega
  have sb : (s.size : Int) ≤ 1073741824 := by omega
  have ND := Lib.hid (need_any w0 w p l false true h)
  rw [or_not_true] at ND
  rw [show (#[Value.string (S l), .bool false] : Array Value)[0]? = some (.string s) by rw [hs]; rfl] at c0
  have X1 : s.extract 0 k = S (l.take k) := by rw [hs, S_extract]; simp
  have X2 : s.extract k s.size = S (l.drop k) := by rw [hsz, hs, S_extract, List.take_of_length_le (by rw [List.length_drop]; exact Nat.le_refl _)]
  have HS := Lib.hid hs
  have CL := Lib.hid (fun u => fclone_any u (S (l.take k)) (by rw [S_size, List.length_take]; omega))
  clear hs h hsz
  go_enter Tryd.func21, Tryd.ntmps21
  go_wp2_with fail
  refine ND.out.mono ?_
  rintro e w1 ⟨rfl, r1, o1⟩
  have c1 := r1.blk.cell 1
  have c2 := r1.blk.cell 0
  rw [show (#[Value.string (S l), .bool false] : Array Value)[0]? = some (.string s) by rw [HS.out]; rfl] at c2
  have R1 := Lib.hid r1
  have O1 := Lib.hid o1
  clear r1 o1 ND
  go_wp2_with fail
  refine (CL.out _).mono ?_
  rintro e w2 ⟨rfl, hb2⟩
  have R2 := Lib.hid (R1.out.under hb2)
  have O2 := Lib.hid (O1.out.under hb2)
  have c3 := R2.out.blk.cell 0
  have y3 := R2.out.blk.frozen 0
  rw [show (#[Value.string (S l), .bool false] : Array Value)[0]? = some (.string s) by rw [HS.out]; rfl] at c3
  have N1 := Lib.hid (R2.out.rest (l.drop k))
  have N2 : Hid (Only [p] w (w2.setCell ⟨p, 0, none⟩ (.string (S (l.drop k))))) := O2.out.trans (only_set p 0 w2 _) (fun x hx => .inl hx)
  clear hb2 CL
  go_wp2_with fail
  go_ret
  exact ⟨rfl, N1.out, N2.out⟩
end Go.Proofs.YtdojchamdcokiaaDoor
