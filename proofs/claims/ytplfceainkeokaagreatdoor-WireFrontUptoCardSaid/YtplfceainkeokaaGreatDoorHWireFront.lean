/-
  WireFront: a request is read off the front: not a byte behind it makes a difference; each beginning of it wants more; what is refused stays refused, whatever comes behind (where all that comes in is of bulk at most 1048576).
-/
import Derived.Test.YtplfceainkeokaaGreatDoorQF2
namespace Go.Proofs.YtplfceainkeokaaGreatDoor.wireFront
open Go.ChangeShapes Go.WideShapes Go.ChangeAt Go.RowKit Go.Deep Reply

theorem wf16 {z : Int} (h : (Lit.int .u16 z).wf = true) : 0 ≤ z ∧ z ≤ 65535 := by
  simpa [Lit.wf, IntKind.min, IntKind.max, IntKind.signed, IntKind.bits] using h
set_option maxRecDepth 100000 in
theorem open_strB {H : Type} {enc : TypeId × Value → H} {W : World} {r : Reach} {b0 : Nat} {v : Value} {d : DataW H} {p : List MemPlace} (hv : Value.okWide Tryz.prog W r b0 9 v) (h : DataW.Trod enc Tryz.prog W 0 (fun _ => true) true 9 v d p) :
    ∃ l : Reply.B, v = .string (S l) ∧ l.length ≤ Rows.uptoBulk d := by
  obtain ⟨s, rfl⟩ := okWide_string Tryz.underlying9 hv
  obtain ⟨fuel, hf⟩ := h
  obtain ⟨z, e, x, _⟩ := DataW.trod_string Tryz.underlying9 hf
  simp only [Prod.mk.injEq] at x
  rw [x.1]
  simp only [Rows.uptoBulk]
  have e1 : s = z := by simpa [Value.cells] using e
  subst e1
  exact ⟨s.data.toList, by rw [S_of], by omega⟩
set_option maxRecDepth 100000 in
set_option maxHeartbeats 32000000 in
theorem walk (w : World) (E : Env w) (l z : Reply.B) (cut : Nat) (hl : l.length + z.length ≤ 1048576) (hcut : cut < 65536) :
    Calls Tryz.prog 3 #[.string (S l), .string (S z), .int .u16 (cut : Int)] w fun e w' => e = .returned (.bool true) ∧ Below w.heap.size w w' := by
  have HE := Lib.hid E
  have FX := Lib.hid (fixed_any closes_all w E)
  obtain ⟨q, n, c, h1⟩ := Wire.reads_ex l
  obtain ⟨q2, n2, c2, h2⟩ := Wire.reads_ex (l ++ z)
  have G1 := Lib.hid h1
  have G2 := Lib.hid h2
  obtain ⟨qm, hqm⟩ : ∃ x, x = S q.method := ⟨_, rfl⟩
  obtain ⟨qt, hqt⟩ : ∃ x, x = S q.target := ⟨_, rfl⟩
  obtain ⟨qb, hqb⟩ : ∃ x, x = S q.body := ⟨_, rfl⟩
  obtain ⟨qn, hqn⟩ : ∃ x, x = q.headers.length := ⟨_, rfl⟩
  obtain ⟨qc, hqc⟩ : ∃ x, x = q.close := ⟨_, rfl⟩
  obtain ⟨rm, hrm⟩ : ∃ x, x = S q2.method := ⟨_, rfl⟩
  obtain ⟨rt, hrt⟩ : ∃ x, x = S q2.target := ⟨_, rfl⟩
  obtain ⟨rb, hrb⟩ : ∃ x, x = S q2.body := ⟨_, rfl⟩
  obtain ⟨rn, hrn⟩ : ∃ x, x = q2.headers.length := ⟨_, rfl⟩
  obtain ⟨rc, hrc⟩ : ∃ x, x = q2.close := ⟨_, rfl⟩
  obtain ⟨ls, hls⟩ : ∃ x, x = S l := ⟨_, rfl⟩
  obtain ⟨zs, hzs⟩ : ∃ x, x = S z := ⟨_, rfl⟩
  have lsz : ls.size = l.length := by rw [hls, S_size]
  have zsz : zs.size = z.length := by rw [hzs, S_size]
  have hcat : ls ++ zs = S (l ++ z) := by rw [hls, hzs, S_append]
  have R1 := Lib.hid (fun u (K : Env u) => readN u K l (by omega) h1 hls hqm hqt hqb hqn hqc)
  have R2 := Lib.hid (fun u (K : Env u) => readN u K (l ++ z) (by rw [List.length_append]; omega) h2 hcat hrm hrt hrb hrn hrc)
  have SA := Lib.hid (fun u A Z c d (hA : HAt u A q.headers) (hZ : HAt u Z q2.headers) => sameN u q q2 A Z c d hA hZ (Wire.reads_cnt h1) hqm hqt hqb hqn hqc hrm hrt hrb hrn hrc)
  have LS := Lib.hid hls
  have LZ := Lib.hid lsz
  have HL := Lib.hid hl
  have q1 : ¬ 9223372036854775807 < ls.size + zs.size := by omega
  have lz : ls.size ≤ 1048576 := by omega
  rw [← hls, ← hzs]
  clear h1 h2 E hqm hqt hqb hqn hqc hrm hrt hrb hrn hrc hls hzs hcat lsz zsz hl
  obtain ⟨sb, hsb⟩ : ∃ x, x = sameQ q q2 := ⟨_, rfl⟩
  rw [← hsb] at SA
  have HSB := Lib.hid hsb
  clear hsb
  by_cases hm : c = -1
  · subst hm
    have MR := Lib.hid (G1.out.more G2.out)
    cases sb
    · have f1 : (ls.size : Int) < (n2 : Int) := by
        rcases MR.out with h | h
        · exact absurd (decide_eq_true h) (by have := HSB.out; unfold sameQ at this; rw [← this]; exact Bool.false_ne_true)
        · rw [LZ.out]; omega
      have f1' : decide ((ls.size : Int) < (n2 : Int)) = true := decide_eq_true f1
      have f1n : ls.size < n2 := by omega
      clear MR
      go_enter Tryz.func3, Tryz.ntmps3
      go_wp2_with fail
      refine FX.out.mono ?_
      rintro e w1 ⟨rfl, hb⟩
      have B1 := Lib.hid hb
      clear hb FX
      go_wp2_with fail
      refine (R1.out _ (HE.out.below B1.out)).mono ?_
      rintro e w2 ⟨⟨A1, d1, rfl, hA⟩, hb⟩
      have X2 : Hid (Below w2.heap.size w2 (w2.alloc (.cells #[.string qm, .string qt, .slice A1 qn d1, .string qb, .bool qc] 26))) := (Below.refl _ _).alloc (Nat.le_refl _) _
      have B2 : Hid (Below w.heap.size w (w2.alloc (.cells #[.string qm, .string qt, .slice A1 qn d1, .string qb, .bool qc] 26))) := by
        have h := B1.out.trans (hb.mono B1.out.size)
        exact h.alloc h.size _
      have K2 : Hid (Held (w2.alloc (.cells #[.string qm, .string qt, .slice A1 qn d1, .string qb, .bool qc] 26)) w2.heap.size 26 #[.string qm, .string qt, .slice A1 qn d1, .string qb, .bool qc]) := Held.new _ _ _ rfl
      have HA := Lib.hid (hA.below X2.out)
      clear hA hb R1 X2
      go_wp2_with fail
      refine (R2.out _ (HE.out.below B2.out)).mono ?_
      rintro e w3 ⟨⟨A2, d2, rfl, hZ⟩, hb⟩
      have X3 : Hid (Below w3.heap.size w3 (w3.alloc (.cells #[.string rm, .string rt, .slice A2 rn d2, .string rb, .bool rc] 26))) := (Below.refl _ _).alloc (Nat.le_refl _) _
      have B3 : Hid (Below w.heap.size w (w3.alloc (.cells #[.string rm, .string rt, .slice A2 rn d2, .string rb, .bool rc] 26))) := by
        have h := B2.out.trans (hb.mono B2.out.size)
        exact h.alloc h.size _
      have K3 : Held w3 w2.heap.size 26 #[.string qm, .string qt, .slice A1 qn d1, .string qb, .bool qc] := K2.out.below hb K2.out.lt
      have HA3 := Lib.hid ((HA.out.below hb).below X3.out)
      have HZ3 := Lib.hid (hZ.below X3.out)
      have k0 := K3.cell 0
      have k1 := K3.cell 1
      have k2 := K3.cell 2
      have k3 := K3.cell 3
      have k4 := K3.cell 4
      have klt := K3.lt
      clear hZ hb R2 X3 HA K2 K3
      go_wp2_with fail
      refine (SA.out _ _ _ _ _ HA3.out HZ3.out).mono ?_
      rintro e w4 ⟨rfl, hb⟩
      have B4 := Lib.hid (B3.out.trans (hb.mono B3.out.size))
      clear hb SA k0 k1 k2 k3 k4 klt
      go_wp2_with fail
      go_ret
      exact ⟨rfl, B4.out⟩
    · clear MR
      go_enter Tryz.func3, Tryz.ntmps3
      go_wp2_with fail
      refine FX.out.mono ?_
      rintro e w1 ⟨rfl, hb⟩
      have B1 := Lib.hid hb
      clear hb FX
      go_wp2_with fail
      refine (R1.out _ (HE.out.below B1.out)).mono ?_
      rintro e w2 ⟨⟨A1, d1, rfl, hA⟩, hb⟩
      have X2 : Hid (Below w2.heap.size w2 (w2.alloc (.cells #[.string qm, .string qt, .slice A1 qn d1, .string qb, .bool qc] 26))) := (Below.refl _ _).alloc (Nat.le_refl _) _
      have B2 : Hid (Below w.heap.size w (w2.alloc (.cells #[.string qm, .string qt, .slice A1 qn d1, .string qb, .bool qc] 26))) := by
        have h := B1.out.trans (hb.mono B1.out.size)
        exact h.alloc h.size _
      have K2 : Hid (Held (w2.alloc (.cells #[.string qm, .string qt, .slice A1 qn d1, .string qb, .bool qc] 26)) w2.heap.size 26 #[.string qm, .string qt, .slice A1 qn d1, .string qb, .bool qc]) := Held.new _ _ _ rfl
      have HA := Lib.hid (hA.below X2.out)
      clear hA hb R1 X2
      go_wp2_with fail
      refine (R2.out _ (HE.out.below B2.out)).mono ?_
      rintro e w3 ⟨⟨A2, d2, rfl, hZ⟩, hb⟩
      have X3 : Hid (Below w3.heap.size w3 (w3.alloc (.cells #[.string rm, .string rt, .slice A2 rn d2, .string rb, .bool rc] 26))) := (Below.refl _ _).alloc (Nat.le_refl _) _
      have B3 : Hid (Below w.heap.size w (w3.alloc (.cells #[.string rm, .string rt, .slice A2 rn d2, .string rb, .bool rc] 26))) := by
        have h := B2.out.trans (hb.mono B2.out.size)
        exact h.alloc h.size _
      have K3 : Held w3 w2.heap.size 26 #[.string qm, .string qt, .slice A1 qn d1, .string qb, .bool qc] := K2.out.below hb K2.out.lt
      have HA3 := Lib.hid ((HA.out.below hb).below X3.out)
      have HZ3 := Lib.hid (hZ.below X3.out)
      have k0 := K3.cell 0
      have k1 := K3.cell 1
      have k2 := K3.cell 2
      have k3 := K3.cell 3
      have k4 := K3.cell 4
      have klt := K3.lt
      clear hZ hb R2 X3 HA K2 K3
      go_wp2_with fail
      refine (SA.out _ _ _ _ _ HA3.out HZ3.out).mono ?_
      rintro e w4 ⟨rfl, hb⟩
      have B4 := Lib.hid (B3.out.trans (hb.mono B3.out.size))
      clear hb SA k0 k1 k2 k3 k4 klt
      go_wp2_with fail
      go_ret
      exact ⟨rfl, B4.out⟩
  · have AP := G1.out.app hm z
    obtain ⟨e1, e2, e3⟩ := AP.same G2.out
    subst e2 e3
    have SBT : sb = true := by rw [HSB.out, ← e1]; exact decide_eq_true rfl
    subst SBT
    have fm : (c == -1) = false := by rw [beq_eq_false_iff_ne]; exact hm
    have SO := Lib.hid (G1.out.some_ hm)
    clear AP e1
    by_cases h0 : c = 0
    · subst h0
      obtain ⟨n1, nl⟩ : 1 ≤ n ∧ n ≤ l.length := by
        rcases SO.out with h | h
        · exact h.2
        · omega
      obtain ⟨j, hj⟩ : ∃ j, j = cut % n := ⟨_, rfl⟩
      have jn : j < n := by rw [hj]; exact Nat.mod_lt _ (by omega)
      have hrem : (cut : Int).tmod (n : Int) = (j : Int) := by rw [Int.tmod_eq_emod_of_nonneg (by omega), hj]; rfl
      obtain ⟨q3, n3, c3, h3⟩ := Wire.reads_ex (l.take j)
      obtain ⟨e1, e2⟩ := G1.out.before jn h3
      subst e1 e2
      obtain ⟨sm, hsm⟩ : ∃ x, x = S q3.method := ⟨_, rfl⟩
      obtain ⟨st, hst⟩ : ∃ x, x = S q3.target := ⟨_, rfl⟩
      obtain ⟨sb, hsb⟩ : ∃ x, x = S q3.body := ⟨_, rfl⟩
      obtain ⟨sn, hsn⟩ : ∃ x, x = q3.headers.length := ⟨_, rfl⟩
      obtain ⟨sc, hsc⟩ : ∃ x, x = q3.close := ⟨_, rfl⟩
      have ljl : (l.take j).length ≤ 4194304 := by rw [List.length_take]; have := HL.out; omega
      have X1 : ls.extract 0 j = S (l.take j) := by rw [LS.out, S_extract]; simp
      obtain ⟨js, hjs⟩ : ∃ x, x = S (l.take j) := ⟨_, rfl⟩
      rw [← hjs] at X1
      have R3 := Lib.hid (fun u (K : Env u) => readN u K (l.take j) ljl h3 hjs hsm hst hsb hsn hsc)
      have nz : (n : Int) ≤ (ls.size : Int) := by rw [LZ.out]; omega
      have nzn : n ≤ ls.size := by rw [LZ.out]; exact nl
      have n0 : (n : Int) ≠ 0 := by omega
      have n1z : ¬ (n : Int) < 1 := by omega
      have n1f : decide ((n : Int) < 1) = false := decide_eq_false n1z
      have n2f : decide ((ls.size : Int) < (n : Int)) = false := decide_eq_false (by omega)
      have n2z : ¬ (ls.size : Int) < (n : Int) := by omega
      have jz : (j : Int) ≤ (ls.size : Int) := by omega
      have jzn : j ≤ ls.size := by omega
      have n1y : ¬ n < 1 := by omega
      have n2y : ¬ ls.size < n := by omega
      clear h3 hsm hst hsb hsn hsc hjs ljl hj SO nl
      go_enter Tryz.func3, Tryz.ntmps3
      go_wp2_with fail
      refine FX.out.mono ?_
      rintro e w1 ⟨rfl, hb⟩
      have B1 := Lib.hid hb
      clear hb FX
      go_wp2_with fail
      refine (R1.out _ (HE.out.below B1.out)).mono ?_
      rintro e w2 ⟨⟨A1, d1, rfl, hA⟩, hb⟩
      have X2 : Hid (Below w2.heap.size w2 (w2.alloc (.cells #[.string qm, .string qt, .slice A1 qn d1, .string qb, .bool qc] 26))) := (Below.refl _ _).alloc (Nat.le_refl _) _
      have B2 : Hid (Below w.heap.size w (w2.alloc (.cells #[.string qm, .string qt, .slice A1 qn d1, .string qb, .bool qc] 26))) := by
        have h := B1.out.trans (hb.mono B1.out.size)
        exact h.alloc h.size _
      have K2 : Hid (Held (w2.alloc (.cells #[.string qm, .string qt, .slice A1 qn d1, .string qb, .bool qc] 26)) w2.heap.size 26 #[.string qm, .string qt, .slice A1 qn d1, .string qb, .bool qc]) := Held.new _ _ _ rfl
      have HA := Lib.hid (hA.below X2.out)
      clear hA hb R1 X2
      go_wp2_with fail
      refine (R2.out _ (HE.out.below B2.out)).mono ?_
      rintro e w3 ⟨⟨A2, d2, rfl, hZ⟩, hb⟩
      have X3 : Hid (Below w3.heap.size w3 (w3.alloc (.cells #[.string rm, .string rt, .slice A2 rn d2, .string rb, .bool rc] 26))) := (Below.refl _ _).alloc (Nat.le_refl _) _
      have B3 : Hid (Below w.heap.size w (w3.alloc (.cells #[.string rm, .string rt, .slice A2 rn d2, .string rb, .bool rc] 26))) := by
        have h := B2.out.trans (hb.mono B2.out.size)
        exact h.alloc h.size _
      have K3 : Held w3 w2.heap.size 26 #[.string qm, .string qt, .slice A1 qn d1, .string qb, .bool qc] := K2.out.below hb K2.out.lt
      have HA3 := Lib.hid ((HA.out.below hb).below X3.out)
      have HZ3 := Lib.hid (hZ.below X3.out)
      have k0 := K3.cell 0
      have k1 := K3.cell 1
      have k2 := K3.cell 2
      have k3 := K3.cell 3
      have k4 := K3.cell 4
      have klt := K3.lt
      clear hZ hb R2 X3 HA K2 K3
      go_wp2_with fail
      refine (SA.out _ _ _ _ _ HA3.out HZ3.out).mono ?_
      rintro e w4 ⟨rfl, hb⟩
      have B4 := Lib.hid (B3.out.trans (hb.mono B3.out.size))
      clear hb SA k0 k1 k2 k3 k4 klt
      go_wp2_with fail
      refine (R3.out _ (HE.out.below B4.out)).mono ?_
      rintro e w5 ⟨⟨A5, d5, rfl, _⟩, hb⟩
      have B5 : Hid (∀ o : Obj, Below w.heap.size w (w5.alloc o)) := fun o => by
        have h := B4.out.trans (hb.mono B4.out.size)
        exact h.alloc h.size _
      clear hb R3
      go_wp2_with fail
      go_ret
      exact ⟨rfl, B5.out _⟩
    · obtain ⟨g1, g2, rfl⟩ : 400 ≤ c ∧ c ≤ 505 ∧ n = 0 := by
        rcases SO.out with h | h
        · exact absurd h.1 h0
        · exact h
      have f0 : (c == 0) = false := by rw [beq_eq_false_iff_ne]; exact h0
      have f1 : decide ((400 : Int) ≤ c) = true := decide_eq_true g1
      have f2 : decide (c ≤ (505 : Int)) = true := decide_eq_true g2
      have fc : (c == c) = true := by simp
      have fc' : (c != c) = false := by simp
      clear SO h0
      go_enter Tryz.func3, Tryz.ntmps3
      go_wp2_with fail
      refine FX.out.mono ?_
      rintro e w1 ⟨rfl, hb⟩
      have B1 := Lib.hid hb
      clear hb FX
      go_wp2_with fail
      refine (R1.out _ (HE.out.below B1.out)).mono ?_
      rintro e w2 ⟨⟨A1, d1, rfl, hA⟩, hb⟩
      have X2 : Hid (Below w2.heap.size w2 (w2.alloc (.cells #[.string qm, .string qt, .slice A1 qn d1, .string qb, .bool qc] 26))) := (Below.refl _ _).alloc (Nat.le_refl _) _
      have B2 : Hid (Below w.heap.size w (w2.alloc (.cells #[.string qm, .string qt, .slice A1 qn d1, .string qb, .bool qc] 26))) := by
        have h := B1.out.trans (hb.mono B1.out.size)
        exact h.alloc h.size _
      have K2 : Hid (Held (w2.alloc (.cells #[.string qm, .string qt, .slice A1 qn d1, .string qb, .bool qc] 26)) w2.heap.size 26 #[.string qm, .string qt, .slice A1 qn d1, .string qb, .bool qc]) := Held.new _ _ _ rfl
      have HA := Lib.hid (hA.below X2.out)
      clear hA hb R1 X2
      go_wp2_with fail
      refine (R2.out _ (HE.out.below B2.out)).mono ?_
      rintro e w3 ⟨⟨A2, d2, rfl, hZ⟩, hb⟩
      have X3 : Hid (Below w3.heap.size w3 (w3.alloc (.cells #[.string rm, .string rt, .slice A2 rn d2, .string rb, .bool rc] 26))) := (Below.refl _ _).alloc (Nat.le_refl _) _
      have B3 : Hid (Below w.heap.size w (w3.alloc (.cells #[.string rm, .string rt, .slice A2 rn d2, .string rb, .bool rc] 26))) := by
        have h := B2.out.trans (hb.mono B2.out.size)
        exact h.alloc h.size _
      have K3 : Held w3 w2.heap.size 26 #[.string qm, .string qt, .slice A1 qn d1, .string qb, .bool qc] := K2.out.below hb K2.out.lt
      have HA3 := Lib.hid ((HA.out.below hb).below X3.out)
      have HZ3 := Lib.hid (hZ.below X3.out)
      have k0 := K3.cell 0
      have k1 := K3.cell 1
      have k2 := K3.cell 2
      have k3 := K3.cell 3
      have k4 := K3.cell 4
      have klt := K3.lt
      clear hZ hb R2 X3 HA K2 K3
      go_wp2_with fail
      refine (SA.out _ _ _ _ _ HA3.out HZ3.out).mono ?_
      rintro e w4 ⟨rfl, hb⟩
      have B4 := Lib.hid (B3.out.trans (hb.mono B3.out.size))
      clear hb SA k0 k1 k2 k3 k4 klt
      go_wp2_with fail
      go_ret
      exact ⟨rfl, B4.out⟩
set_option maxRecDepth 100000 in
theorem opens {H : Type} {enc : TypeId × Value → H} {W : World} {base : Nat} {args : Array Value} {ds : List (DataW H)} {p : List MemPlace}
    (hval : ∀ (j : Nat) t v, Tryz.f3.params[j]? = some t → args[j]? = some v → Value.okWide Tryz.prog W .any base t v)
    (hA : DataW.TrodAll enc Tryz.prog W 0 (fun _ => true) true Tryz.f3.params.toList args.toList ds p) (hlt : ∀ x ∈ p, x.block < W.heap.size) (hk : Rows.uptoBulkAll ds ≤ 1048576) (hE : Env W) :
    Calls Tryz.prog 3 args W fun e W' => e = .returned (.bool true) ∧ Below W.heap.size W W' := by
  rw [Tryz.params3] at hA hval
  obtain ⟨v0, vs0, d0, ds0, p0, q0, hargs, rfl, rfl, h0, r0⟩ := trodAll_cons hA
  obtain ⟨v1, vs1, d1, ds1, p1, q1, rfl, rfl, rfl, h1, r1⟩ := trodAll_cons r0
  obtain ⟨v2, vs2, d2, ds2, p2, q2, rfl, rfl, rfl, h2, r2⟩ := trodAll_cons r1
  obtain ⟨rfl, rfl, rfl⟩ := trodAll_nil r2
  obtain rfl : args = #[v0, v1, v2] := Array.toList_inj.1 hargs
  simp only [Rows.uptoBulkAll] at hk
  obtain ⟨l, rfl, hl⟩ := open_strB (hval 0 9 v0 rfl rfl) h0
  obtain ⟨z, rfl, hz⟩ := open_strB (hval 1 9 v1 rfl rfl) h1
  obtain ⟨fuel, hf2⟩ := h2
  obtain ⟨y, rfl⟩ := okWide_int Tryz.underlying22 (hval 2 22 v2 rfl rfl)
  obtain ⟨z2, e2, _, w2⟩ := DataW.trod_int Tryz.underlying22 hf2
  have e3 : y = z2 := by simpa [Value.cells] using e2
  subst e3
  have hz16 := wf16 w2
  obtain ⟨cu, rfl⟩ : ∃ cu : Nat, y = (cu : Int) := ⟨y.toNat, by omega⟩
  exact walk W hE l z cu (by omega) (by omega)
theorem witness_row (os : Os) {H : Type} (enc : TypeId × Value → H) :
    (Rows.OpenSpec.upto Rows.wireFrontSpec).preRow enc Tryz.prog Tryz.f3 Rows.wireFrontUptoRow.domain false Rows.wireFrontUptoRow.laid ((startW os).forCall (fun _ _ => 0) ⟨#[], #[.string ⟨#[]⟩, .string ⟨#[]⟩, .int .u16 0], []⟩).memory #[.string ⟨#[]⟩, .string ⟨#[]⟩, .int .u16 0] := by
  have hw : (DataW.whole enc Tryz.prog ((startW os).forCall (fun _ _ => 0) ⟨#[], #[.string ⟨#[]⟩, .string ⟨#[]⟩, .int .u16 0], []⟩).memory Tryz.f3.params.toList Rows.wireFrontSpec.vars false (#[.string ⟨#[]⟩, .string ⟨#[]⟩, .int .u16 0] : Array Value).toList 8).map (fun x => (x.1, x.2.1)) =
      some ([.lit (.string []), .lit (.string []), .lit (.int .u16 0)], []) := by kernel_rfl
  obtain ⟨⟨x1, x2, x3⟩, hx, hx1⟩ := Option.map_eq_some_iff.1 hw
  simp only [Prod.mk.injEq] at hx1
  obtain ⟨rfl, rfl⟩ := hx1
  exact OpenSpec.preRow_of_cond 8 hx (by kernel_rfl) (fun k hk => by cases hk; kernel_rfl) (by kernel_rfl) (door_met os _)
set_option maxRecDepth 100000 in
theorem lifted (os : Os) (started : os.Started) (H : Type) (enc : TypeId × Value → H) (F : Stop.Interp) :
    ReturnsInHanded {} Tryz.checked os 3 .any ((Rows.OpenSpec.upto Rows.wireFrontSpec).preRow enc Tryz.prog Tryz.f3 Rows.wireFrontUptoRow.domain false Rows.wireFrontUptoRow.laid) (((Rows.OpenSpec.upto Rows.wireFrontSpec).at F).post enc Tryz.prog Tryz.f3 false true false false) := by
  refine returnsInHanded_of_row (C := Tryz.checked) (s := Rows.OpenSpec.upto Rows.wireFrontSpec) own started (by kernel_rfl) Tryz.func3
    (witness_row_atRef (enc := enc) (C := Tryz.checked) false (startW os) #[.string ⟨#[]⟩, .string ⟨#[]⟩, .int .u16 0] rfl (by kernel_rfl) (by kernel_rfl) (by kernel_rfl) (witness_row os enc)) ?_
  intro W base args ds gs before hval hW _ hcond _ hL hsh _
  have hk := hcond _ rfl
  refine law_calls (s := Rows.wireFrontSpec) laidOut Tryz.underlying4 rfl (by rw [Tryz.params3]; exact of_decide_eq_true (by kernel_rfl)) rfl (fun ds h => by match ds, h with | [_, _, _], _ => rfl) hW ?_
  obtain ⟨rfl, p, hA, hlt⟩ := law_args rfl hW
  have hb : Rows.uptoBulkAll (ds ++ []) ≤ 1048576 := of_decide_eq_true hk
  rw [List.append_nil] at hb
  exact opens hval hA hlt hb (env_of hL hsh)

theorem saidUpto : Rows.WireFrontUptoSaid :=
  OpenClaim.holds_of_cond 3 Tryz.f3 rfl rfl rfl rfl rfl rfl rfl ⟨rfl, rfl, rfl, rfl, rfl⟩ rfl rfl rfl rfl rfl (by kernel_rfl) Tryz.func3 (by kernel_rfl)
    (of_decide_eq_true (by kernel_rfl)) (by unfold Func.isWrapper; first | (rw [if_pos (by decide +kernel)]; kernel_rfl) | (rw [if_neg (by decide +kernel)]; exact ⟨rfl, rfl⟩))
    (fun os started H enc _ F => by rw [OpenClaim.pre_eq_preRow]; exact lifted os started H enc F)
theorem plain (f : FuncId) (fn : Func) (hf : Tryz.pinned.checked.prog.funcNamed "docket/docketlaw11.WireFront" = some f) (hfn : Tryz.pinned.checked.prog.funcs[f]? = some fn) :
    true = Tryz.pinned.checked.prog.looks [] ∧ ∀ (j : Nat) t, fn.params[j]? = some t → Tryz.pinned.checked.prog.wantsStandIn t = false := by
  obtain rfl : f = 3 := Option.some.inj ((show Tryz.prog.funcNamed "docket/docketlaw11.WireFront" = some 3 by kernel_rfl).symm.trans hf) |>.symm
  obtain rfl : fn = Tryz.f3 := (Option.some.inj (Tryz.func3.symm.trans hfn)).symm
  exact ⟨by kernel_rfl, fun j t ht => (of_decide_eq_true (p := ∀ t ∈ Tryz.f3.params.toList, Tryz.prog.wantsStandIn t = false) (by kernel_rfl)) t (Array.mem_toList_iff.2 (Array.mem_of_getElem? ht))⟩
theorem proved : Rows.WireFrontUptoCardSaid :=
  Claim7.holds_tied_plain_at .later [] _ _ _ _ saidUpto (fun _ h => by cases h) (by kernel_rfl) (fun _ h => by cases h) wireFrontUpto_row_tie rfl ⟨rfl, rfl⟩ (by kernel_rfl) rfl plain (by kernel_rfl)

end Go.Proofs.YtplfceainkeokaaGreatDoor.wireFront
