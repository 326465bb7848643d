/-
  reply: the reader: the status, the length.
-/
import Derived.Test.YtdojchamdcokiaaDoorR17
namespace Go.Proofs.YtdojchamdcokiaaDoor
open Go.RowKit Reply

theorem cut_len (l s : B) : (Lib.cut l s).1.length ≤ l.length := by
  unfold Lib.cut
  split
  · simp only [List.length_take]; omega
  · exact Nat.le_refl _
theorem cut_len2 (l s : B) : (Lib.cut l s).2.1.length ≤ l.length := by
  unfold Lib.cut
  split
  · simp only [List.length_drop]; omega
  · simp
theorem trimPre_len (l s : B) : (Lib.trimPrefix l s).length ≤ l.length := by
  unfold Lib.trimPrefix
  split
  · simp only [List.length_drop]; omega
  · exact Nat.le_refl _
theorem takeLine_len (line l : B) : (takeLine line l).2.length ≤ l.length := by
  unfold takeLine
  split
  · simp only [List.length_drop]; omega
  · exact Nat.le_refl _
/-- The status at the front is what Atoi reads of its digits. -/
theorem status_v {l z : B} {s : Int} (h : statusAt l = some (s, z)) : Lib.atoiAll (Lib.cut (Lib.trimPrefix (Lib.cut l crlf).1 version) [32]).1 = .ok s := by
  obtain ⟨hm, hl⟩ := statusAt_back h
  have is := status_is hm
  have hp : (statusLine s ++ crlf).isPrefixOf l = true := by rw [hl]; exact pre_app _ _
  rw [line_of (statusLine_no hm) hp]
  show Lib.atoiAll (digitsOf (statusLine s)) = _
  rw [digits_of is.1, atoi_dec _ (by omega)]
  congr 1
  omega
theorem status_take {l : B} {v : Int} (hv : reason v ≠ []) (h : (takeLine (statusLine v) l).1 = true) : statusAt l = some (v, (takeLine (statusLine v) l).2) := by
  have hb := takeLine_back h
  have := statusAt_app (reason_mem hv) (takeLine (statusLine v) l).2
  rwa [← hb] at this
theorem status_miss {l : B} {v : Int} (hd : ∀ u, Lib.atoiAll (Lib.cut (Lib.trimPrefix (Lib.cut l crlf).1 version) [32]).1 = .ok u → v = u) (h : reason v = [] ∨ (takeLine (statusLine v) l).1 = false) : statusAt l = none := by
  cases e : statusAt l with
  | none => rfl
  | some q =>
    exfalso
    obtain ⟨s, z⟩ := q
    have := hd s (status_v e)
    subst this
    obtain ⟨hm, hl⟩ := statusAt_back e
    rcases h with h | h
    · exact (status_is hm).2.2.1 h
    · rw [hl, takeLine_app] at h
      cases h
/-- What status answers, and leaves of the reader. -/
def StatusE (w0 w' : World) (p : Nat) (l : B) (lost : Bool) (v : Int) : Prop :=
  ∃ (l' : B) (lost' : Bool), RS w0 w' p l' lost' ∧ l'.length ≤ l.length ∧ -9223372036854775808 ≤ v ∧ v ≤ 9223372036854775807 ∧ (∀ s z, statusAt l = some (s, z) → v = s ∧ l' = z ∧ lost' = lost) ∧ (statusAt l = none → lost' = true)
set_option maxRecDepth 100000 in
set_option maxHeartbeats 8000000 in
theorem fstatus_any (w0 w : World) (p : Nat) (l : B) (lost : Bool) (h : RS w0 w p l lost) (hl : l.length ≤ 1073741824) :
    Calls Tryd.prog 16 #[.pointer (some ⟨p, 0, none⟩)] w fun e w' => (∃ v, e = .returned (.int .i64 v) ∧ StatusE w0 w' p l lost v) ∧ Only [p] w w' := by
  have H := Lib.hid h
  have LI := Lib.hid (line_any w0 w p l lost h hl)
  obtain ⟨ln, hln⟩ : ∃ x, x = (Lib.cut l crlf).1 := ⟨_, rfl⟩
  have lnz : ln.length ≤ 1073741824 := by rw [hln]; have := cut_len l crlf; omega
  have TP := Lib.hid (fun u => trimpre_any u ln version)
  obtain ⟨t, ht⟩ : ∃ x, x = Lib.trimPrefix ln version := ⟨_, rfl⟩
  have tz : t.length ≤ 1073741824 := by rw [ht]; have := trimPre_len ln version; omega
  have CU := Lib.hid (fun u (E : Env u) => cut_any u E t [32] (by omega))
  obtain ⟨d, hd⟩ : ∃ x, x = (Lib.cut t [32]).1 := ⟨_, rfl⟩
  have dz : d.length ≤ 1073741824 := by rw [hd]; have := cut_len t [32]; omega
  have AT := Lib.hid (fun u (E : Env u) => atoi_any u E d (by omega))
  obtain ⟨d2, hd2⟩ : ∃ x, x = (Lib.cut t [32]).2.1 := ⟨_, rfl⟩
  obtain ⟨d3, hd3⟩ : ∃ x, x = (Lib.cut t [32]).2.2 := ⟨_, rfl⟩
  have DD : Hid (Lib.atoiAll (Lib.cut (Lib.trimPrefix (Lib.cut l crlf).1 version) [32]).1 = Lib.atoiAll d) := by show _ = _; rw [hd, ht, hln]
  rw [← hln] at LI
  rw [← ht] at TP
  rw [← hd, ← hd2, ← hd3] at CU
  clear hln ht hd hd2 hd3 h
  go_enter Tryd.func16, Tryd.ntmps16
  go_wp2_with fail
  refine LI.out.mono ?_
  rintro e w1 ⟨rfl, hb1⟩
  have B1 := Lib.hid hb1
  have R1 := Lib.hid (H.out.under hb1)
  clear hb1 LI
  go_wp2_with fail
  refine (TP.out _).mono ?_
  rintro e w' ⟨rfl, rfl⟩
  clear TP
  go_wp2_with fail
  refine (CU.out _ R1.out.envw).mono ?_
  rintro e w2 ⟨rfl, hb2⟩
  have B2 := Lib.hid (B1.out.trans (hb2.mono B1.out.size))
  have R2 := Lib.hid (R1.out.under hb2)
  clear hb2 CU
  go_wp2_with fail
  refine (AT.out _ R2.out.envw).mono ?_
  rintro e w3 ⟨⟨v, ev, rfl, v0, v1, hv⟩, hb3⟩
  have B3 := Lib.hid (B2.out.trans (hb3.mono B2.out.size))
  have R3 := Lib.hid (R2.out.under hb3)
  have HV : Hid (∀ u, Lib.atoiAll (Lib.cut (Lib.trimPrefix (Lib.cut l crlf).1 version) [32]).1 = .ok u → v = u) := by show ∀ u, _; rw [DD.out]; exact hv
  have V0 := Lib.hid v0
  have V1 := Lib.hid v1
  have RR := Lib.hid (fun u => reason_any v u)
  obtain ⟨z, hz⟩ : ∃ x, x = S (reason v) := ⟨_, rfl⟩
  have fz : z.toList.isEmpty = decide (reason v = []) := by rw [hz]; exact S_empty _
  rw [← hz] at RR
  clear hb3 AT hv v0 v1 hz
  by_cases g : reason v = []
  · have MI := Lib.hid (status_miss HV.out (.inl g))
    rw [decide_eq_true g] at fz
    have ND := Lib.hid (fun u k => need_any w0 u p l lost false k)
    clear g
    go_wp2_with fail
    refine (RR.out _).mono ?_
    rintro e w' ⟨rfl, rfl⟩
    go_wp2_with fail
    refine (ND.out _ R3.out).mono ?_
    rintro e w4 ⟨rfl, r4, o4⟩
    have FIN : Hid (StatusE w0 w4 p l lost v) := ⟨l, _, r4, Nat.le_refl _, V0.out, V1.out, (fun s z h => by rw [MI.out] at h; cases h), fun _ => by cases lost <;> rfl⟩
    have O4 : Hid (Only [p] w w4) := (Only.of_below B3.out).trans o4 (fun x hx => .inl hx)
    clear r4 o4 ND
    go_wp2_with fail
    go_ret
    exact ⟨⟨v, rfl, FIN.out⟩, O4.out⟩
  · have GR := Lib.hid g
    rw [decide_eq_false g] at fz
    have hm := reason_mem g
    have is := status_is hm
    have SL := Lib.hid (statusline_any w3 R3.out.envw v hm)
    have TL := Lib.hid (fun u k => takeline_any w0 u p l (statusLine v) lost k (by have := statusLine_len v is.1 is.2.1; omega))
    obtain ⟨sl, hsl⟩ : ∃ x, x = S (statusLine v) := ⟨_, rfl⟩
    rw [← hsl] at SL TL
    cases gt : (takeLine (statusLine v) l).1
    · have MI := Lib.hid (status_miss HV.out (.inr gt))
      rw [gt] at TL
      have LZ := Lib.hid (takeLine_len (statusLine v) l)
      obtain ⟨lz, hlz⟩ : ∃ x, x = (takeLine (statusLine v) l).2 := ⟨_, rfl⟩
      rw [← hlz] at TL LZ
      have ND := Lib.hid (fun u k => need_any w0 u p lz lost false k)
      clear g hm is hsl gt hlz
      go_wp2_with fail
      refine (RR.out _).mono ?_
      rintro e w' ⟨rfl, rfl⟩
      go_wp2_with fail
      refine SL.out.mono ?_
      rintro e w4 ⟨rfl, hb4⟩
      have B4 := Lib.hid (B3.out.trans (hb4.mono B3.out.size))
      have R4 := Lib.hid (R3.out.under hb4)
      clear hb4 SL
      go_wp2_with fail
      refine (TL.out _ R4.out).mono ?_
      rintro e w5 ⟨rfl, r5, o5⟩
      have R5 := Lib.hid r5
      have O5 : Hid (Only [p] w w5) := (Only.of_below B4.out).trans o5 (fun x hx => .inl hx)
      clear r5 o5 TL
      go_wp2_with fail
      refine (ND.out _ R5.out).mono ?_
      rintro e w6 ⟨rfl, r6, o6⟩
      have FIN : Hid (StatusE w0 w6 p l lost v) := ⟨lz, _, r6, LZ.out, V0.out, V1.out, (fun s z h => by rw [MI.out] at h; cases h), fun _ => by cases lost <;> rfl⟩
      have O6 : Hid (Only [p] w w6) := O5.out.trans o6 (fun x hx => .inl hx)
      clear r6 o6 ND
      go_wp2_with fail
      go_ret
      exact ⟨⟨v, rfl, FIN.out⟩, O6.out⟩
    · have MI := Lib.hid (status_take g gt)
      rw [gt] at TL
      have LZ := Lib.hid (takeLine_len (statusLine v) l)
      obtain ⟨lz, hlz⟩ : ∃ x, x = (takeLine (statusLine v) l).2 := ⟨_, rfl⟩
      rw [← hlz] at TL LZ MI
      have ND := Lib.hid (fun u k => need_any w0 u p lz lost true k)
      clear g hm is hsl gt hlz
      go_wp2_with fail
      refine (RR.out _).mono ?_
      rintro e w' ⟨rfl, rfl⟩
      go_wp2_with fail
      refine SL.out.mono ?_
      rintro e w4 ⟨rfl, hb4⟩
      have B4 := Lib.hid (B3.out.trans (hb4.mono B3.out.size))
      have R4 := Lib.hid (R3.out.under hb4)
      clear hb4 SL
      go_wp2_with fail
      refine (TL.out _ R4.out).mono ?_
      rintro e w5 ⟨rfl, r5, o5⟩
      have R5 := Lib.hid r5
      have O5 : Hid (Only [p] w w5) := (Only.of_below B4.out).trans o5 (fun x hx => .inl hx)
      clear r5 o5 TL
      go_wp2_with fail
      refine (ND.out _ R5.out).mono ?_
      rintro e w6 ⟨rfl, r6, o6⟩
      have FIN : Hid (StatusE w0 w6 p l lost v) := ⟨lz, _, r6, LZ.out, V0.out, V1.out, (fun s z h => by
        rw [MI.out] at h
        simp only [Option.some.injEq, Prod.mk.injEq] at h
        exact ⟨h.1, h.2, by cases lost <;> rfl⟩), (fun h => by rw [MI.out] at h; cases h)⟩
      have O6 : Hid (Only [p] w w6) := O5.out.trans o6 (fun x hx => .inl hx)
      clear r6 o6 ND
      go_wp2_with fail
      go_ret
      exact ⟨⟨v, rfl, FIN.out⟩, O6.out⟩
end Go.Proofs.YtdojchamdcokiaaDoor
