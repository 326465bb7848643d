/-
  WireAgain: a request that is read, and written anew with its headers' names in capitals, is read as the same (where all that comes in is of bulk at most 1048576).
-/
import Derived.Test.YtplfceainkeokaaGreatDoorQA1
namespace Go.Proofs.YtplfceainkeokaaGreatDoor.wireAgain
open Go.ChangeShapes Go.WideShapes Go.ChangeAt Go.RowKit Go.Deep Reply
open Wire (cap caps)

set_option maxRecDepth 100000 in
theorem open_strB {H : Type} {enc : TypeId × Value → H} {W : World} {r : Reach} {b0 : Nat} {v : Value} {d : DataW H} {p : List MemPlace} (hv : Value.okWide Tryz.prog W r b0 9 v) (h : DataW.Trod enc Tryz.prog W 0 (fun _ => true) true 9 v d p) :
    ∃ l : Reply.B, v = .string (S l) ∧ l.length ≤ Rows.uptoBulk d := by
  obtain ⟨s, rfl⟩ := okWide_string Tryz.underlying9 hv
  obtain ⟨fuel, hf⟩ := h
  obtain ⟨z, e, x, _⟩ := DataW.trod_string Tryz.underlying9 hf
  simp only [Prod.mk.injEq] at x
  rw [x.1]
  simp only [Rows.uptoBulk]
  have e1 : s = z := by simpa [Value.cells] using e
  subst e1
  exact ⟨s.data.toList, by rw [S_of], by omega⟩
set_option maxRecDepth 100000 in
set_option maxHeartbeats 64000000 in
theorem walk (w : World) (E : Env w) (l : Reply.B) (hl : l.length ≤ 1048576) :
    Calls Tryz.prog 6 #[.string (S l)] w fun e w' => e = .returned (.bool true) ∧ Below w.heap.size w w' := by
  have HE := Lib.hid E
  have FX := Lib.hid (fixed_any closes_all w E)
  obtain ⟨q, n, c, h1⟩ := Wire.reads_ex l
  have G1 := Lib.hid h1
  obtain ⟨qm, hqm⟩ : ∃ x, x = S q.method := ⟨_, rfl⟩
  obtain ⟨qt, hqt⟩ : ∃ x, x = S q.target := ⟨_, rfl⟩
  obtain ⟨qb, hqb⟩ : ∃ x, x = S q.body := ⟨_, rfl⟩
  obtain ⟨qn, hqn⟩ : ∃ x, x = q.headers.length := ⟨_, rfl⟩
  obtain ⟨qc, hqc⟩ : ∃ x, x = q.close := ⟨_, rfl⟩
  obtain ⟨ls, hls⟩ : ∃ x, x = S l := ⟨_, rfl⟩
  have R1 := Lib.hid (fun u (K : Env u) => readN u K l (by omega) h1 hls hqm hqt hqb hqn hqc)
  have msz : qm.size = q.method.length := by rw [hqm, S_size]
  have tsz : qt.size = q.target.length := by rw [hqt, S_size]
  have bsz : qb.size = q.body.length := by rw [hqb, S_size]
  have QM := Lib.hid hqm
  have QT := Lib.hid hqt
  have QB := Lib.hid hqb
  have QN := Lib.hid hqn
  have QC := Lib.hid hqc
  have MZ := Lib.hid msz
  have TZ := Lib.hid tsz
  have BZ := Lib.hid bsz
  rw [← hls]
  clear h1 E hqm hqt hqb hqn hqc hls hl msz tsz bsz
  by_cases hc : c = 0
  · subst hc
    have FT := Lib.hid (Wire.reads_fit G1.out)
    by_cases ht : qt.size ≤ 900
    · have ft : decide ((900 : Int) < (qt.size : Int)) = false := decide_eq_false (by omega)
      by_cases hm : qm.size ≤ 80
      · have fm : decide ((80 : Int) < (qm.size : Int)) = false := decide_eq_false (by omega)
        have n32 : qn ≤ 32 := by rw [QN.out]; exact FT.out.2.1
        have b8 : qb.size ≤ 8192 := by rw [BZ.out]; exact FT.out.2.2
        have T0 := text0 q
        rw [← QM.out, ← QT.out] at T0
        have e1 : ¬ 9223372036854775807 < qm.size + 1 := by omega
        have e2 : ¬ 9223372036854775807 < qm.size + 1 + qt.size := by omega
        have e3 : ¬ 9223372036854775807 < qm.size + 1 + qt.size + 11 := by omega
        obtain ⟨s00, hs00⟩ : ∃ x, x = S (acc q 0) := ⟨_, rfl⟩
        rw [← hs00] at T0
        have HS00 := Lib.hid hs00
        clear hs00
        go_enter Tryz.func6, Tryz.ntmps6
        go_wp2_with fail
        refine FX.out.mono ?_
        rintro e w1 ⟨rfl, hb⟩
        have B1 := Lib.hid hb
        clear hb FX
        go_wp2_with fail
        refine (R1.out _ (HE.out.below B1.out)).mono ?_
        rintro e w2 ⟨⟨A1, d1, rfl, hA⟩, hb⟩
        have X2 : Hid (Below w2.heap.size w2 (w2.alloc (.cells #[.string qm, .string qt, .slice A1 qn d1, .string qb, .bool qc] 26))) := (Below.refl _ _).alloc (Nat.le_refl _) _
        have B2 : Hid (Below w.heap.size w (w2.alloc (.cells #[.string qm, .string qt, .slice A1 qn d1, .string qb, .bool qc] 26))) := by
          have h := B1.out.trans (hb.mono B1.out.size)
          exact h.alloc h.size _
        have K2 : Hid (Held (w2.alloc (.cells #[.string qm, .string qt, .slice A1 qn d1, .string qb, .bool qc] 26)) w2.heap.size 26 #[.string qm, .string qt, .slice A1 qn d1, .string qb, .bool qc]) := Held.new _ _ _ rfl
        have HA := Lib.hid (hA.below X2.out)
        clear hA hb R1 X2
        have k0 := K2.out.cell 0
        have k1 := K2.out.cell 1
        go_wp2_with fail
        go_loopw [6, 7, 8, 9] (fun v6 v7 v8 v9 wr => ∃ i : Nat, i ≤ qn ∧ v6 = .string (S (acc q i)) ∧ v7 = .bool (Wire.isCh (q.headers.take i)) ∧ v8 = .int .i64 (Wire.sizeA (q.headers.take i) : Int) ∧ v9 = .int .i64 (i : Int) ∧ Hid (Wire.sizeA (q.headers.take i) ≤ 4000) ∧ Hid (∀ j (h : j < q.headers.length), j < i → (q.headers[j]).1.length + (q.headers[j]).2.length ≤ 1000) ∧ Hid (Held wr w2.heap.size 26 #[.string qm, .string qt, .slice A1 qn d1, .string qb, .bool qc]) ∧ Hid (HAt wr A1 q.headers) ∧ Hid (Below w.heap.size w wr)) (fun _ _ _ v9 _ => qn - (intOf v9).toNat)
        case atStart => exact ⟨0, by omega, by rw [HS00.out], rfl, rfl, rfl, by show Wire.sizeA [] ≤ 4000; decide, fun j _ h => by omega, K2, HA, B2⟩
        case round =>
          obtain ⟨i, hi, rfl, rfl, rfl, rfl, HSZ, HEA, HK, HH, HB⟩ := hrel
          have k2 := HK.out.cell 2
          have k3 := HK.out.cell 3
          have klt := HK.out.lt
          obtain ⟨cs, hcs⟩ : ∃ x, x = S (acc q i) := ⟨_, rfl⟩
          obtain ⟨ch, hch⟩ : ∃ x, x = Wire.isCh (q.headers.take i) := ⟨_, rfl⟩
          obtain ⟨sz, hsz⟩ : ∃ x, x = Wire.sizeA (q.headers.take i) := ⟨_, rfl⟩
          rw [← hcs, ← hch, ← hsz]
          rw [← hsz] at HSZ
          have CS := Lib.hid hcs
          have CH := Lib.hid hch
          have SZ := Lib.hid hsz
          have s4 : sz ≤ 4000 := HSZ.out
          have cz : cs.size ≤ 5000 := by rw [hcs, S_size]; have := acc_len (q := q) (by rw [← MZ.out]; exact hm) (by rw [← TZ.out]; exact ht) i; omega
          clear hcs hch hsz HSZ
          by_cases hlt : i < qn
          · have hq : i < q.headers.length := by rw [← QN.out]; exact hlt
            have iz : (i : Int) < (qn : Int) := by omega
            have HQ := Lib.hid hq
            obtain ⟨g, off, rfl, c0, c1⟩ := HH.out.at_ hq
            obtain ⟨hn, hhn⟩ : ∃ x, x = S (q.headers[i]'HQ.out).1 := ⟨_, rfl⟩
            obtain ⟨hv, hhv⟩ : ∃ x, x = S (q.headers[i]'HQ.out).2 := ⟨_, rfl⟩
            rw [← hhn] at c0
            rw [← hhv] at c1
            obtain ⟨nm, hnm⟩ : ∃ x, x = (q.headers[i]'HQ.out).1 := ⟨_, rfl⟩
            have NM := Lib.hid hnm
            have HN := Lib.hid hhn
            have HV := Lib.hid hhv
            have hns : hn = S nm := by rw [hhn, hnm]
            have HNS := Lib.hid hns
            have nz : hn.size = nm.length := by rw [hns, S_size]
            have fit := FT.out.1 (q.headers[i]'HQ.out) (List.getElem_mem _)
            have vz : hv.size = (q.headers[i]'HQ.out).2.length := by rw [hhv, S_size]
            have NZ := Lib.hid nz
            have VZ := Lib.hid vz
            have fitz : hn.size + hv.size ≤ 4096 := by rw [nz, vz, hnm]; exact fit
            clear hhn hhv hnm hns nz vz fit hq
            obtain ⟨wo, hwo⟩ : ∃ x, x = wr := ⟨_, rfl⟩
            subst hwo
            obtain ⟨w3, hw3⟩ : ∃ x, x = wo.alloc (.cells #[.string hn, .string hv] 38) := ⟨_, rfl⟩
            have HW3 := Lib.hid hw3
            have K3 : Hid (Held w3 wo.heap.size 38 #[.string hn, .string hv]) := by show Held _ _ _ _; rw [hw3]; exact Held.new _ _ _ rfl
            have X3 : Hid (Below wo.heap.size wo w3) := by show Below _ _ _; rw [hw3]; exact (Below.refl _ _).alloc (Nat.le_refl _) _
            have CV := Lib.run_convert_string_bytes (P := Tryz.prog) w3 9 31 5 hn Tryz.underlying9 Tryz.underlying31 Tryz.underlying5
            have L0 : Hid (LowAt (Lib.bytesWorld w3 5 hn) w3.heap.size nm) := by show LowAt _ _ _; rw [HNS.out]; exact low_new w3 nm
            have B0 : Hid (Below w3.heap.size w3 (Lib.bytesWorld w3 5 hn)) := bytes_below _ _ _
            obtain ⟨w4, hw4⟩ : ∃ x, x = Lib.bytesWorld w3 5 hn := ⟨_, rfl⟩
            obtain ⟨cp, hcp⟩ : ∃ cp, cp = grownCap w3 hn.size 0 5 := ⟨_, rfl⟩
            obtain ⟨b, hb⟩ : ∃ b, b = w3.heap.size := ⟨_, rfl⟩
            have HBB := Lib.hid hb
            rw [← hw4] at CV L0 B0
            rw [← hcp, ← hb] at CV
            rw [← hb] at L0 B0
            obtain ⟨len, hlen⟩ : ∃ x, x = hn.size := ⟨_, rfl⟩
            rw [hw3] at CV
            have LEN := Lib.hid hlen
            clear hw4 hcp hb hw3 hlen
            have h3 : Hid (wo.heap.size < b) := by show _ < _; rw [HBB.out]; exact K3.out.lt
            go_wp2_with fail
            go_loopw [12] (fun v wi => ∃ k : Nat, k ≤ nm.length ∧ v = .int .i64 k ∧ Hid (LowAt wi b ((nm.take k).map cap ++ nm.drop k)) ∧ Hid (Below b w4 wi)) (fun v _ => nm.length - (intOf v).toNat)
            case atStart => exact ⟨0, by omega, rfl, by show LowAt _ _ _; simpa using L0.out, Below.refl _ _⟩
            case round =>
              obtain ⟨k, hk, rfl, HL, HC⟩ := hrel
              have nz : hn.size = nm.length := NZ.out
              by_cases hlt : k < nm.length
              · have hlz : (k : Int) < (nm.length : Int) := by omega
                have hlz2 : (k : Int) < (hn.size : Int) := by omega
                have hin : k < ((nm.take k).map cap ++ nm.drop k).length := by rw [cap_len hk]; exact hlt
                have hc := HL.out.cell hin
                have hf := HL.out.free hin
                rw [cap_here hlt] at hc
                obtain ⟨c, hcc⟩ : ∃ c, c = nm.getD k 0 := ⟨_, rfl⟩
                rw [← hcc] at hc
                have C := Lib.hid hcc
                have c8 := c.toNat_lt
                obtain ⟨x, hx⟩ : ∃ x, x = c.toNat := ⟨_, rfl⟩
                rw [← hx] at hc c8
                have X := Lib.hid hx
                clear hcc hx hin
                by_cases h97 : 97 ≤ x
                · have f1 : decide ((97 : Int) ≤ (x : Int)) = true := decide_eq_true (by omega)
                  by_cases h122 : x ≤ 122
                  · have f2 : decide ((x : Int) ≤ 122) = true := decide_eq_true (by omega)
                    have LN := Lib.hid (cap_nat X.out ⟨h97, h122⟩)
                    have NL : Hid (LowAt (wr.setCell ⟨b, k, none⟩ (.int .u8 ((x : Int) - 32))) b ((nm.take (k + 1)).map cap ++ nm.drop (k + 1))) := by
                      have := HL.out.set (l' := (nm.take (k + 1)).map cap ++ nm.drop (k + 1)) (by rw [cap_len hk, cap_len (by omega)]) (i := k) (by rw [cap_len hk]; exact hlt) (cap c) (by rw [cap_next hlt, ← C.out]) (fun j _ hj => cap_else hlt hj)
                      rw [LN.out] at this
                      exact this
                    have NB : Hid (Below b w4 (wr.setCell ⟨b, k, none⟩ (.int .u8 ((x : Int) - 32)))) := HC.out.setCell (p := ⟨b, k, none⟩) (Nat.le_refl _) _
                    go_wp2_with fail
                    go_roundw
                    case rel => exact ⟨k + 1, by omega, by go_num, NL, NB⟩
                    case measure => simp [intOf]; omega
                  · have f2 : decide ((x : Int) ≤ 122) = false := decide_eq_false (by omega)
                    have NL : Hid (LowAt wr b ((nm.take (k + 1)).map cap ++ nm.drop (k + 1))) := by
                      show LowAt _ _ _
                      rw [cap_same hlt (by rw [← C.out]; exact cap_stays X.out (by omega))]
                      exact HL.out
                    go_wp2_with fail
                    go_roundw
                    case rel => exact ⟨k + 1, by omega, by go_num, NL, HC⟩
                    case measure => simp [intOf]; omega
                · have f1 : decide ((97 : Int) ≤ (x : Int)) = false := decide_eq_false (by omega)
                  have NL : Hid (LowAt wr b ((nm.take (k + 1)).map cap ++ nm.drop (k + 1))) := by
                    show LowAt _ _ _
                    rw [cap_same hlt (by rw [← C.out]; exact cap_stays X.out (by omega))]
                    exact HL.out
                  go_wp2_with fail
                  go_roundw
                  case rel => exact ⟨k + 1, by omega, by go_num, NL, HC⟩
                  case measure => simp [intOf]; omega
              · have HN4 : Hid (k = nm.length) := by show _ = _; omega
                have hk4 : k = hn.size := by omega
                have kz : ¬ (k : Int) < (hn.size : Int) := by omega
                have kzd : decide ((k : Int) < (hn.size : Int)) = false := decide_eq_false kz
                clear nz hk hlt
                have HL2 : LowAt wr b (caps nm) := by have := HL.out; rw [HN4.out] at this; simpa [caps] using this
                have TS := HL2.bts.toStr byteT (ts := 9) Tryz.underlying9 cp
                rw [strB_map, show (caps nm).length = hn.size by rw [Wire.caps_len, NZ.out]] at TS
                obtain ⟨us, hus⟩ : ∃ x, x = S (caps nm) := ⟨_, rfl⟩
                have uz : us.size = hn.size := by rw [hus, S_size, Wire.caps_len, NZ.out]
                rw [← hus] at TS
                have BB : Hid (Below w3.heap.size w3 wr) := by show Below _ _ _; rw [← HBB.out]; exact B0.out.trans HC.out
                have K5 := K3.out.below BB.out K3.out.lt
                have Q5 : Hid (Held wr w2.heap.size 26 #[.string qm, .string qt, .slice (some ⟨g, off, none⟩) qn d1, .string qb, .bool qc]) := (HK.out.below X3.out HK.out.lt).below BB.out (Nat.lt_of_lt_of_le HK.out.lt X3.out.size)
                have H5 : Hid (HAt wr (some ⟨g, off, none⟩) q.headers) := (HH.out.below X3.out).below BB.out
                have B5 : Hid (Below w.heap.size w wr) := by
                  have h := HB.out.trans (X3.out.mono HB.out.size)
                  exact h.trans (BB.out.mono h.size)
                have y0 := K5.cell 0
                have y1 := K5.cell 1
                have ylt := K5.lt
                have T1 := text1 HQ.out
                rw [← CS.out, ← HV.out, ← NM.out, ← hus] at T1
                obtain ⟨ns, hns⟩ : ∃ x, x = S (acc q (i + 1)) := ⟨_, rfl⟩
                rw [← hns] at T1
                have NS := Lib.hid hns
                have u1 : us.size ≤ 4096 := by omega
                have SN := Lib.hid (size_next HQ.out)
                have HVZ := Lib.hid VZ.out
                clear hns hus HL2 K5 uz
                by_cases hbig : 1000 < hn.size + hv.size
                · have fA : decide ((1000 : Int) < (hn.size : Int) + (hv.size : Int)) = true := decide_eq_true (by omega)
                  clear TS T1 hbig
                  go_wp2_with fail
                  go_ret
                  exact ⟨rfl, B5.out⟩
                · have fA : decide ((1000 : Int) < (hn.size : Int) + (hv.size : Int)) = false := decide_eq_false (by omega)
                  by_cases hbig2 : 4000 < sz + (hn.size + hv.size + 5)
                  · have fB : decide ((4000 : Int) < (sz : Int) + ((hn.size : Int) + (hv.size : Int) + 5)) = true := decide_eq_true (by omega)
                    have fB2 : (4000 : Int) < (sz : Int) + ((hn.size : Int) + (hv.size : Int) + 5) := by omega
                    clear TS T1 hbig hbig2
                    go_wp2_with fail
                    go_ret
                    exact ⟨rfl, B5.out⟩
                  · have fB : decide ((4000 : Int) < (sz : Int) + ((hn.size : Int) + (hv.size : Int) + 5)) = false := decide_eq_false (by omega)
                    have fB2 : ¬ (4000 : Int) < (sz : Int) + ((hn.size : Int) + (hv.size : Int) + 5) := by omega
                    have F9 : Hid (Wire.sizeA (q.headers.take (i + 1)) ≤ 4000) := by show _ ≤ _; rw [SN.out, ← SZ.out, ← NM.out, ← NZ.out, ← VZ.out]; omega
                    have F8 : Hid (sz + (hn.size + hv.size + 5) = Wire.sizeA (q.headers.take (i + 1))) := by show _ = _; rw [SN.out, ← SZ.out, ← NM.out, ← NZ.out, ← VZ.out]
                    have F7 : Hid (∀ j (h : j < q.headers.length), j < i + 1 → (q.headers[j]).1.length + (q.headers[j]).2.length ≤ 1000) := fun j h hj => by
                      rcases Nat.lt_or_ge j i with h' | h'
                      · exact HEA.out j h h'
                      · obtain rfl : j = i := by omega
                        rw [← NM.out, ← NZ.out, ← VZ.out]
                        omega
                    obtain ⟨te, hte⟩ : ∃ x, x = decide (nm = Reply.nTE) := ⟨_, rfl⟩
                    have f3 : (hn.toList == [116, 114, 97, 110, 115, 102, 101, 114, 45, 101, 110, 99, 111, 100, 105, 110, 103]) = te := by rw [hte, HNS.out, S_toList]; exact eqd _ _
                    have F6 : Hid (Wire.isCh (q.headers.take (i + 1)) = (ch || te)) := by show _ = _; rw [ch_next HQ.out, ← CH.out, ← NM.out, hte]
                    have q1 : ¬ 9223372036854775807 < us.size + 3 := by omega
                    have q2 : ¬ 9223372036854775807 < us.size + 3 + hv.size := by omega
                    have q3 : ¬ 9223372036854775807 < us.size + 3 + hv.size + 2 := by omega
                    have q4 : ¬ 9223372036854775807 < cs.size + (us.size + 3 + hv.size + 2) := by omega
                    have iq : i ≤ 32 := by omega
                    have IN : Hid (i + 1 ≤ qn) := by show _ ≤ _; omega
                    clear hbig hbig2 hte
                    cases ch
                    · go_wp2_with fail
                      go_roundw
                      case rel => exact ⟨i + 1, IN.out, by rw [NS.out], by rw [F6.out]; rfl, by rw [← F8.out]; go_num, by go_num, F9, F7, Q5, H5, B5⟩
                      case measure => simp [intOf]; have := IN.out; omega
                    · clear f3
                      go_wp2_with fail
                      go_roundw
                      case rel => exact ⟨i + 1, IN.out, by rw [NS.out], by rw [F6.out]; rfl, by rw [← F8.out]; go_num, by go_num, F9, F7, Q5, H5, B5⟩
                      case measure => simp [intOf]; have := IN.out; omega
          · have hend : i = qn := by omega
            have iz : ¬ (i : Int) < (qn : Int) := by omega
            have izd : decide ((i : Int) < (qn : Int)) = false := decide_eq_false iz
            have TK : q.headers.take i = q.headers := by rw [hend, QN.out, List.take_length]
            have iql : i = q.headers.length := by rw [hend, QN.out]
            have AG := Wire.again G1.out (by rw [← TZ.out]; exact ht) (by rw [← MZ.out]; exact hm) (fun h hh => by
              obtain ⟨j, hj, rfl⟩ := List.getElem_of_mem hh
              exact HEA.out j hj (by rw [iql]; exact hj)) (by rw [← TK, ← SZ.out]; exact s4) [71, 69, 84]
            have T2 := text2 q
            rw [← iql, ← CS.out] at T2
            obtain ⟨tp, htp⟩ : ∃ x, x = S (topA q) := ⟨_, rfl⟩
            rw [← htp] at T2
            have pz : tp.size ≤ 5002 := by rw [← T2, ByteArray.size_append]; show cs.size + 2 ≤ _; omega
            obtain ⟨ts, hts⟩ : ∃ x, x = S (Wire.textA q) := ⟨_, rfl⟩
            have T6 := text6 q
            rw [← hts] at T6
            obtain ⟨gs, hgs⟩ : ∃ x, x = S (Wire.textA q ++ [71, 69, 84]) := ⟨_, rfl⟩
            rw [← hgs] at T6
            obtain ⟨m2, hm2⟩ : ∃ x, x = (Wire.textA q).length := ⟨_, rfl⟩
            have tz : ts.size = m2 := by rw [hts, S_size, hm2]
            rw [← hm2] at AG
            have HCH : Hid (ch = Wire.isCh q.headers) := by show _ = _; rw [CH.out, TK]
            have q0 : ¬ 9223372036854775807 < cs.size + 2 := by omega
            have eqm : ((m2 : Int) == (ts.size : Int)) = true := by rw [tz]; simp
            have HQB : qb.size = q.body.length := BZ.out
            have TPS := Lib.hid htp
            have TSS := Lib.hid hts
            have R2 : Hid (gs.size ≤ 100000 → ∀ u (K : Env u), Calls Tryz.prog 9 #[.string gs] u fun e w' => (∃ A c2, e = .returned (.tuple #[.agg #[.string qm, .string qt, .slice A qn c2, .string qb, .bool qc], .int .i64 (m2 : Int), .int .i64 0]) ∧ HAt w' A q.headers) ∧ Below u.heap.size u w') := fun hz u K => readN u K _ (by rw [← S_size, ← hgs]; omega) AG hgs QM.out QT.out QB.out QN.out QC.out
            have SA := Lib.hid (fun u A Z c d (hA : HAt u A q.headers) (hZ : HAt u Z q.headers) => sameN u q q A Z c d hA hZ (by rw [← QN.out]; exact n32) QM.out QT.out QB.out QN.out QC.out QM.out QT.out QB.out QN.out QC.out)
            rw [show sameQ q q = true from decide_eq_true rfl] at SA
            clear hend TK iql AG htp hts hgs hm2 tz HEA
            cases ch
            · have T5 := text5 q (by rw [← HCH.out]; exact Bool.false_ne_true)
              rw [← TPS.out, ← QB.out, ← TSS.out] at T5
              have zs : ts.size ≤ 20000 := by rw [← T5, ByteArray.size_append]; omega
              have q8 : ¬ 9223372036854775807 < tp.size + qb.size := by omega
              have q9 : ¬ 9223372036854775807 < ts.size + 3 := by omega
              have gz : gs.size ≤ 100000 := by rw [← T6, ByteArray.size_append]; show ts.size + 3 ≤ _; omega
              have R3 := Lib.hid (R2.out gz)
              clear R2 gz
              go_wp2_with fail
              refine (R3.out _ (HE.out.below HB.out)).mono ?_
              rintro e w3 ⟨⟨A2, d2, rfl, hZ⟩, hb⟩
              have X3 : Hid (Below w3.heap.size w3 (w3.alloc (.cells #[.string qm, .string qt, .slice A2 qn d2, .string qb, .bool qc] 26))) := (Below.refl _ _).alloc (Nat.le_refl _) _
              have B3 : Hid (Below w.heap.size w (w3.alloc (.cells #[.string qm, .string qt, .slice A2 qn d2, .string qb, .bool qc] 26))) := by
                have h := HB.out.trans (hb.mono HB.out.size)
                exact h.alloc h.size _
              have K3 : Held w3 w2.heap.size 26 #[.string qm, .string qt, .slice A1 qn d1, .string qb, .bool qc] := HK.out.below hb HK.out.lt
              have HA3 := Lib.hid ((HH.out.below hb).below X3.out)
              have HZ3 := Lib.hid (hZ.below X3.out)
              have j0 := K3.cell 0
              have j1 := K3.cell 1
              have j2 := K3.cell 2
              have j3 := K3.cell 3
              have j4 := K3.cell 4
              have jlt := K3.lt
              clear hZ hb R3 X3 K3
              go_wp2_with fail
              refine (SA.out _ _ _ _ _ HZ3.out HA3.out).mono ?_
              rintro e w4 ⟨rfl, hb⟩
              have B4 := Lib.hid (B3.out.trans (hb.mono B3.out.size))
              clear hb SA j0 j1 j2 j3 j4 jlt
              go_wp2_with fail
              go_ret
              exact ⟨rfl, B4.out⟩
            · by_cases h0 : 0 < qb.size
              · have T3 := text3 q HCH.out.symm (by rw [← BZ.out]; exact h0)
                obtain ⟨ds, hds⟩ : ∃ x, x = S (Wire.digs 16 q.body.length) := ⟨_, rfl⟩
                have dz : ds.size ≤ 10 := by rw [hds, S_size]; have := Wire.digs_len (base := 16) (by omega) 3 q.body.length (by omega); omega
                have NU : Hid (∀ u, Calls Tryz.prog 11 #[.int .i64 (qb.size : Int), .int .i64 16] u fun e w' => e = .returned (.string ds) ∧ u = w') := fun u => by
                  have := lnumber_any 16 (.inr rfl) q.body.length (by omega) u
                  rw [← hds, ← BZ.out] at this
                  exact this
                rw [← TPS.out, ← QB.out, ← TSS.out, ← hds] at T3
                obtain ⟨t3, ht3⟩ : ∃ x, x = tp ++ (ds ++ ⟨#[13, 10]⟩ ++ qb ++ ⟨#[13, 10]⟩) := ⟨_, rfl⟩
                rw [← ht3] at T3
                have T3a := ht3.symm
                have z3 : t3.size ≤ 15000 := by
                  rw [ht3]
                  simp only [ByteArray.size_append]
                  show tp.size + (ds.size + 2 + qb.size + 2) ≤ _
                  omega
                have zs : ts.size ≤ 20000 := by rw [← T3, ByteArray.size_append]; show t3.size + 5 ≤ _; omega
                have q4 : ¬ 9223372036854775807 < ds.size + 2 := by omega
                have q5 : ¬ 9223372036854775807 < ds.size + 2 + qb.size := by omega
                have q6 : ¬ 9223372036854775807 < ds.size + 2 + qb.size + 2 := by omega
                have q7 : ¬ 9223372036854775807 < tp.size + (ds.size + 2 + qb.size + 2) := by omega
                have q8 : ¬ 9223372036854775807 < t3.size + 5 := by omega
                have f0 : (0 : Int) < (qb.size : Int) := by omega
                have f0d : decide ((0 : Int) < (qb.size : Int)) = true := decide_eq_true f0
                clear hds ht3 HQB
                go_upto_region 25 with fail
                refine wp_region_noPanic ?_
                refine wp_region_held_drew (S := fun wx => wx.cell? ⟨w2.heap.size, 3, none⟩ = some (.string qb)) (by kernel_rfl) (by exact HK.out.cell 3) (fun hHeld => ?_)
                refine take_ (i := 0) (v := ?_) 130 rfl rfl (by kernel_rfl) (by kernel_rfl) (by kernel_rfl) (fun _ _ _ h => h) (Or.inl ⟨by rfl, ?_⟩) (by assumption) ?_
                rotate_left
                · (intro wS hSw; (try dsimp only at hSw); go_simp; try with_reducible rfl)
                simp only [Act.put, List.setIfInBounds_toArray, List.set_cons_zero, List.set_cons_succ]
                refine take_ (i := 1) (v := ?_) 131 rfl rfl (by kernel_rfl) (by kernel_rfl) (by kernel_rfl) (fun _ _ _ h => h) (Or.inl ⟨by rfl, ?_⟩) (by assumption) ?_
                rotate_left
                · (intro wS hSw; (try dsimp only at hSw); go_simp; try with_reducible rfl)
                simp only [Act.put, List.setIfInBounds_toArray, List.set_cons_zero, List.set_cons_succ]
                refine take_ (i := 2) (v := ?_) 132 rfl rfl (by kernel_rfl) (by kernel_rfl) (by kernel_rfl) (fun _ _ _ h => h) (Or.inl ⟨by rfl, ?_⟩) (by assumption) ?_
                rotate_left
                · (intro wS hSw; (try dsimp only at hSw); go_simp; try with_reducible rfl)
                simp only [Act.put, List.setIfInBounds_toArray, List.set_cons_zero, List.set_cons_succ]
                refine take_ (i := 3) (v := ?_) 133 rfl rfl (by kernel_rfl) (by kernel_rfl) (by kernel_rfl) (fun _ _ _ h => h) (Or.inl ⟨by rfl, ?_⟩) (by assumption) ?_
                rotate_left
                · (intro wS hSw; (try dsimp only at hSw); go_simp; try with_reducible rfl)
                simp only [Act.put, List.setIfInBounds_toArray, List.set_cons_zero, List.set_cons_succ]
                refine take_ (i := 6) (v := ?_) 136 rfl rfl (by kernel_rfl) (by kernel_rfl) (by kernel_rfl) (fun _ _ _ h => h) (Or.inl ⟨by rfl, ?_⟩) (by assumption) ?_
                rotate_left
                · (intro wS hSw; (try dsimp only at hSw); go_simp; try with_reducible rfl)
                simp only [Act.put, List.setIfInBounds_toArray, List.set_cons_zero, List.set_cons_succ]
                refine take_ (i := 7) (v := ?_) 137 rfl rfl (by kernel_rfl) (by kernel_rfl) (by kernel_rfl) (fun _ _ _ h => h) (Or.inl ⟨by rfl, ?_⟩) (by assumption) ?_
                rotate_left
                · (intro wS hSw; (try dsimp only at hSw); go_simp; try with_reducible rfl)
                simp only [Act.put, List.setIfInBounds_toArray, List.set_cons_zero, List.set_cons_succ]
                refine one_ (i := 4) _ (by kernel_rfl) rfl (fun K hK => ?_)
                go_simp
                refine (NU.out _).mono ?_
                rintro e w5 ⟨rfl, rfl⟩
                dsimp only
                refine hK.out _ _ (HK.out.cell 3) (fun hHeld => ?_)
                clear hK K
                refine take_ (i := 5) (v := ?_) 135 rfl rfl (by kernel_rfl) (by kernel_rfl) (by kernel_rfl) (fun _ _ _ h => h) (Or.inl ⟨by rfl, ?_⟩) (by assumption) ?_
                rotate_left
                · (intro wS hSw; (try dsimp only at hSw); go_simp; try with_reducible rfl)
                simp only [Act.put, List.setIfInBounds_toArray]
                refine take_ (i := 8) (v := ?_) 138 rfl rfl (by kernel_rfl) (by kernel_rfl) (by kernel_rfl) (fun _ _ _ h => h) (Or.inl ⟨by rfl, ?_⟩) (by assumption) ?_
                rotate_left
                · (intro wS hSw; (try dsimp only at hSw); go_simp; try with_reducible rfl)
                simp only [Act.put, List.setIfInBounds_toArray]
                refine take_ (i := 9) (v := ?_) 139 rfl rfl (by kernel_rfl) (by kernel_rfl) (by kernel_rfl) (fun _ _ _ h => h) (Or.inl ⟨by rfl, ?_⟩) (by assumption) ?_
                rotate_left
                · (intro wS hSw; (try dsimp only at hSw); go_simp; try with_reducible rfl)
                simp only [Act.put, List.setIfInBounds_toArray]
                refine take_ (i := 10) (v := ?_) 140 rfl rfl (by kernel_rfl) (by kernel_rfl) (by kernel_rfl) (fun _ _ _ h => h) (Or.inl ⟨by rfl, ?_⟩) (by assumption) ?_
                rotate_left
                · (intro wS hSw; (try dsimp only at hSw); go_simp; try with_reducible rfl)
                simp only [Act.put, List.setIfInBounds_toArray]
                refine take_ (i := 11) (v := ?_) 6 rfl rfl (by kernel_rfl) (by kernel_rfl) (by kernel_rfl) (fun _ _ _ h => h) (Or.inl ⟨by rfl, ?_⟩) (by assumption) ?_
                rotate_left
                · (intro wS hSw; (try dsimp only at hSw); go_simp; try with_reducible rfl)
                simp only [Act.put, List.setIfInBounds_toArray]
                refine wpAnyH_done (by kernel_rfl) ?_ _
                refine NoPanic.normal ?_
                have q9 : ¬ 9223372036854775807 < ts.size + 3 := by omega
                have gz : gs.size ≤ 100000 := by rw [← T6, ByteArray.size_append]; show ts.size + 3 ≤ _; omega
                have R3 := Lib.hid (R2.out gz)
                clear R2 gz
                go_wp2_with fail
                refine (R3.out _ (HE.out.below HB.out.drew)).mono ?_
                rintro e w3 ⟨⟨A2, d2, rfl, hZ⟩, hb⟩
                have X3 : Hid (Below w3.heap.size w3 (w3.alloc (.cells #[.string qm, .string qt, .slice A2 qn d2, .string qb, .bool qc] 26))) := (Below.refl _ _).alloc (Nat.le_refl _) _
                have B3 : Hid (Below w.heap.size w (w3.alloc (.cells #[.string qm, .string qt, .slice A2 qn d2, .string qb, .bool qc] 26))) := by
                  have h := HB.out.drew.trans (hb.mono HB.out.drew.size)
                  exact h.alloc h.size _
                have K3 : Held w3 w2.heap.size 26 #[.string qm, .string qt, .slice A1 qn d1, .string qb, .bool qc] := HK.out.drew.below hb HK.out.lt
                have HA3 := Lib.hid (((HH.out.below (Below.refl _ _).drew).below hb).below X3.out)
                have HZ3 := Lib.hid (hZ.below X3.out)
                have j0 := K3.cell 0
                have j1 := K3.cell 1
                have j2 := K3.cell 2
                have j3 := K3.cell 3
                have j4 := K3.cell 4
                have jlt := K3.lt
                clear hZ hb R3 X3 K3
                go_wp2_with fail
                refine (SA.out _ _ _ _ _ HZ3.out HA3.out).mono ?_
                rintro e w4 ⟨rfl, hb⟩
                have B4 := Lib.hid (B3.out.trans (hb.mono B3.out.size))
                clear hb SA j0 j1 j2 j3 j4 jlt
                go_wp2_with fail
                go_ret
                exact ⟨rfl, B4.out⟩
              · have T4 := text4 q HCH.out.symm (by rw [← BZ.out]; exact h0)
                rw [← TPS.out, ← TSS.out] at T4
                have zs : ts.size ≤ 20000 := by rw [← T4, ByteArray.size_append]; show tp.size + 5 ≤ _; omega
                have q8 : ¬ 9223372036854775807 < tp.size + 5 := by omega
                have f0 : ¬ (0 : Int) < (qb.size : Int) := by omega
                have f0d : decide ((0 : Int) < (qb.size : Int)) = false := decide_eq_false f0
                clear HQB
                have q9 : ¬ 9223372036854775807 < ts.size + 3 := by omega
                have gz : gs.size ≤ 100000 := by rw [← T6, ByteArray.size_append]; show ts.size + 3 ≤ _; omega
                have R3 := Lib.hid (R2.out gz)
                clear R2 gz
                go_wp2_with fail
                refine (R3.out _ (HE.out.below HB.out)).mono ?_
                rintro e w3 ⟨⟨A2, d2, rfl, hZ⟩, hb⟩
                have X3 : Hid (Below w3.heap.size w3 (w3.alloc (.cells #[.string qm, .string qt, .slice A2 qn d2, .string qb, .bool qc] 26))) := (Below.refl _ _).alloc (Nat.le_refl _) _
                have B3 : Hid (Below w.heap.size w (w3.alloc (.cells #[.string qm, .string qt, .slice A2 qn d2, .string qb, .bool qc] 26))) := by
                  have h := HB.out.trans (hb.mono HB.out.size)
                  exact h.alloc h.size _
                have K3 : Held w3 w2.heap.size 26 #[.string qm, .string qt, .slice A1 qn d1, .string qb, .bool qc] := HK.out.below hb HK.out.lt
                have HA3 := Lib.hid ((HH.out.below hb).below X3.out)
                have HZ3 := Lib.hid (hZ.below X3.out)
                have j0 := K3.cell 0
                have j1 := K3.cell 1
                have j2 := K3.cell 2
                have j3 := K3.cell 3
                have j4 := K3.cell 4
                have jlt := K3.lt
                clear hZ hb R3 X3 K3
                go_wp2_with fail
                refine (SA.out _ _ _ _ _ HZ3.out HA3.out).mono ?_
                rintro e w4 ⟨rfl, hb⟩
                have B4 := Lib.hid (B3.out.trans (hb.mono B3.out.size))
                clear hb SA j0 j1 j2 j3 j4 jlt
                go_wp2_with fail
                go_ret
                exact ⟨rfl, B4.out⟩

      · have fm : decide ((80 : Int) < (qm.size : Int)) = true := decide_eq_true (by omega)
        have gm : (80 : Int) < (qm.size : Int) := by omega
        go_enter Tryz.func6, Tryz.ntmps6
        go_wp2_with fail
        refine FX.out.mono ?_
        rintro e w1 ⟨rfl, hb⟩
        have B1 := Lib.hid hb
        clear hb FX
        go_wp2_with fail
        refine (R1.out _ (HE.out.below B1.out)).mono ?_
        rintro e w2 ⟨⟨A1, d1, rfl, hA⟩, hb⟩
        have X2 : Hid (Below w2.heap.size w2 (w2.alloc (.cells #[.string qm, .string qt, .slice A1 qn d1, .string qb, .bool qc] 26))) := (Below.refl _ _).alloc (Nat.le_refl _) _
        have B2 : Hid (Below w.heap.size w (w2.alloc (.cells #[.string qm, .string qt, .slice A1 qn d1, .string qb, .bool qc] 26))) := by
          have h := B1.out.trans (hb.mono B1.out.size)
          exact h.alloc h.size _
        have K2 : Hid (Held (w2.alloc (.cells #[.string qm, .string qt, .slice A1 qn d1, .string qb, .bool qc] 26)) w2.heap.size 26 #[.string qm, .string qt, .slice A1 qn d1, .string qb, .bool qc]) := Held.new _ _ _ rfl
        have HA := Lib.hid (hA.below X2.out)
        clear hA hb R1 X2
        have k0 := K2.out.cell 0
        have k1 := K2.out.cell 1
        clear HA K2
        go_wp2_with fail
        go_ret
        exact ⟨rfl, B2.out⟩
    · have ft : decide ((900 : Int) < (qt.size : Int)) = true := decide_eq_true (by omega)
      have gt : (900 : Int) < (qt.size : Int) := by omega
      go_enter Tryz.func6, Tryz.ntmps6
      go_wp2_with fail
      refine FX.out.mono ?_
      rintro e w1 ⟨rfl, hb⟩
      have B1 := Lib.hid hb
      clear hb FX
      go_wp2_with fail
      refine (R1.out _ (HE.out.below B1.out)).mono ?_
      rintro e w2 ⟨⟨A1, d1, rfl, hA⟩, hb⟩
      have X2 : Hid (Below w2.heap.size w2 (w2.alloc (.cells #[.string qm, .string qt, .slice A1 qn d1, .string qb, .bool qc] 26))) := (Below.refl _ _).alloc (Nat.le_refl _) _
      have B2 : Hid (Below w.heap.size w (w2.alloc (.cells #[.string qm, .string qt, .slice A1 qn d1, .string qb, .bool qc] 26))) := by
        have h := B1.out.trans (hb.mono B1.out.size)
        exact h.alloc h.size _
      have K2 : Hid (Held (w2.alloc (.cells #[.string qm, .string qt, .slice A1 qn d1, .string qb, .bool qc] 26)) w2.heap.size 26 #[.string qm, .string qt, .slice A1 qn d1, .string qb, .bool qc]) := Held.new _ _ _ rfl
      have HA := Lib.hid (hA.below X2.out)
      clear hA hb R1 X2
      have k1 := K2.out.cell 1
      clear HA K2
      go_wp2_with fail
      go_ret
      exact ⟨rfl, B2.out⟩
  · have fc : (c != 0) = true := by rw [bne_iff_ne]; exact hc
    have fc2 : (c == 0) = false := by rw [beq_eq_false_iff_ne]; exact hc
    go_enter Tryz.func6, Tryz.ntmps6
    go_wp2_with fail
    refine FX.out.mono ?_
    rintro e w1 ⟨rfl, hb⟩
    have B1 := Lib.hid hb
    clear hb FX
    go_wp2_with fail
    refine (R1.out _ (HE.out.below B1.out)).mono ?_
    rintro e w2 ⟨⟨A1, d1, rfl, hA⟩, hb⟩
    have X2 : Hid (Below w2.heap.size w2 (w2.alloc (.cells #[.string qm, .string qt, .slice A1 qn d1, .string qb, .bool qc] 26))) := (Below.refl _ _).alloc (Nat.le_refl _) _
    have B2 : Hid (Below w.heap.size w (w2.alloc (.cells #[.string qm, .string qt, .slice A1 qn d1, .string qb, .bool qc] 26))) := by
      have h := B1.out.trans (hb.mono B1.out.size)
      exact h.alloc h.size _
    have K2 : Hid (Held (w2.alloc (.cells #[.string qm, .string qt, .slice A1 qn d1, .string qb, .bool qc] 26)) w2.heap.size 26 #[.string qm, .string qt, .slice A1 qn d1, .string qb, .bool qc]) := Held.new _ _ _ rfl
    have HA := Lib.hid (hA.below X2.out)
    clear hA hb R1 X2
    clear HA K2
    go_wp2_with fail
    go_ret
    exact ⟨rfl, B2.out⟩
set_option maxRecDepth 100000 in
theorem opens {H : Type} {enc : TypeId × Value → H} {W : World} {base : Nat} {args : Array Value} {ds : List (DataW H)} {p : List MemPlace}
    (hval : ∀ (j : Nat) t v, Tryz.f6.params[j]? = some t → args[j]? = some v → Value.okWide Tryz.prog W .any base t v)
    (hA : DataW.TrodAll enc Tryz.prog W 0 (fun _ => true) true Tryz.f6.params.toList args.toList ds p) (hlt : ∀ x ∈ p, x.block < W.heap.size) (hk : Rows.uptoBulkAll ds ≤ 1048576) (hE : Env W) :
    Calls Tryz.prog 6 args W fun e W' => e = .returned (.bool true) ∧ Below W.heap.size W W' := by
  rw [Tryz.params6] at hA hval
  obtain ⟨v0, vs0, d0, ds0, p0, q0, hargs, rfl, rfl, h0, r0⟩ := trodAll_cons hA
  obtain ⟨rfl, rfl, rfl⟩ := trodAll_nil r0
  obtain rfl : args = #[v0] := Array.toList_inj.1 hargs
  simp only [Rows.uptoBulkAll] at hk
  obtain ⟨l, rfl, hl⟩ := open_strB (hval 0 9 v0 rfl rfl) h0
  exact walk W hE l (by omega)
theorem witness_row (os : Os) {H : Type} (enc : TypeId × Value → H) :
    (Rows.OpenSpec.upto Rows.wireAgainSpec).preRow enc Tryz.prog Tryz.f6 Rows.wireAgainUptoRow.domain false Rows.wireAgainUptoRow.laid ((startW os).forCall (fun _ _ => 0) ⟨#[], #[.string ⟨#[]⟩], []⟩).memory #[.string ⟨#[]⟩] := by
  have hw : (DataW.whole enc Tryz.prog ((startW os).forCall (fun _ _ => 0) ⟨#[], #[.string ⟨#[]⟩], []⟩).memory Tryz.f6.params.toList Rows.wireAgainSpec.vars false (#[.string ⟨#[]⟩] : Array Value).toList 8).map (fun x => (x.1, x.2.1)) =
      some ([.lit (.string [])], []) := by kernel_rfl
  obtain ⟨⟨x1, x2, x3⟩, hx, hx1⟩ := Option.map_eq_some_iff.1 hw
  simp only [Prod.mk.injEq] at hx1
  obtain ⟨rfl, rfl⟩ := hx1
  exact OpenSpec.preRow_of_cond 8 hx (by kernel_rfl) (fun k hk => by cases hk; kernel_rfl) (by kernel_rfl) (door_met os _)
set_option maxRecDepth 100000 in
theorem lifted (os : Os) (started : os.Started) (H : Type) (enc : TypeId × Value → H) (F : Stop.Interp) :
    ReturnsInHanded {} Tryz.checked os 6 .any ((Rows.OpenSpec.upto Rows.wireAgainSpec).preRow enc Tryz.prog Tryz.f6 Rows.wireAgainUptoRow.domain false Rows.wireAgainUptoRow.laid) (((Rows.OpenSpec.upto Rows.wireAgainSpec).at F).post enc Tryz.prog Tryz.f6 false true false false) := by
  refine returnsInHanded_of_row (C := Tryz.checked) (s := Rows.OpenSpec.upto Rows.wireAgainSpec) own started (by kernel_rfl) Tryz.func6
    (witness_row_atRef (enc := enc) (C := Tryz.checked) false (startW os) #[.string ⟨#[]⟩] rfl (by kernel_rfl) (by kernel_rfl) (by kernel_rfl) (witness_row os enc)) ?_
  intro W base args ds gs before hval hW _ hcond _ hL hsh _
  have hk := hcond _ rfl
  refine law_calls (s := Rows.wireAgainSpec) laidOut Tryz.underlying4 rfl (by rw [Tryz.params6]; exact of_decide_eq_true (by kernel_rfl)) rfl (fun ds h => by match ds, h with | [_], _ => rfl) hW ?_
  obtain ⟨rfl, p, hA, hlt⟩ := law_args rfl hW
  have hb : Rows.uptoBulkAll (ds ++ []) ≤ 1048576 := of_decide_eq_true hk
  rw [List.append_nil] at hb
  exact opens hval hA hlt hb (env_of hL hsh)

theorem saidUpto : Rows.WireAgainUptoSaid :=
  OpenClaim.holds_of_cond 6 Tryz.f6 rfl rfl rfl rfl rfl rfl rfl ⟨rfl, rfl, rfl, rfl, rfl⟩ rfl rfl rfl rfl rfl (by kernel_rfl) Tryz.func6 (by kernel_rfl)
    (of_decide_eq_true (by kernel_rfl)) (by unfold Func.isWrapper; first | (rw [if_pos (by decide +kernel)]; kernel_rfl) | (rw [if_neg (by decide +kernel)]; exact ⟨rfl, rfl⟩))
    (fun os started H enc _ F => by rw [OpenClaim.pre_eq_preRow]; exact lifted os started H enc F)
theorem plain (f : FuncId) (fn : Func) (hf : Tryz.pinned.checked.prog.funcNamed "docket/docketlaw11.WireAgain" = some f) (hfn : Tryz.pinned.checked.prog.funcs[f]? = some fn) :
    true = Tryz.pinned.checked.prog.looks [] ∧ ∀ (j : Nat) t, fn.params[j]? = some t → Tryz.pinned.checked.prog.wantsStandIn t = false := by
  obtain rfl : f = 6 := Option.some.inj ((show Tryz.prog.funcNamed "docket/docketlaw11.WireAgain" = some 6 by kernel_rfl).symm.trans hf) |>.symm
  obtain rfl : fn = Tryz.f6 := (Option.some.inj (Tryz.func6.symm.trans hfn)).symm
  exact ⟨by kernel_rfl, fun j t ht => (of_decide_eq_true (p := ∀ t ∈ Tryz.f6.params.toList, Tryz.prog.wantsStandIn t = false) (by kernel_rfl)) t (Array.mem_toList_iff.2 (Array.mem_of_getElem? ht))⟩
theorem proved : Rows.WireAgainUptoCardSaid :=
  Claim7.holds_tied_plain_at .later [] _ _ _ _ saidUpto (fun _ h => by cases h) (by kernel_rfl) (fun _ h => by cases h) wireAgainUpto_row_tie rfl ⟨rfl, rfl⟩ (by kernel_rfl) rfl plain (by kernel_rfl)

end Go.Proofs.YtplfceainkeokaaGreatDoor.wireAgain
