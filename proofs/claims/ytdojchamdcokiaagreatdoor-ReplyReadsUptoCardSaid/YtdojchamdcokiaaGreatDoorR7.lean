/-
  reply: what the document's Good answers.
-/
import Derived.Test.YtdojchamdcokiaaGreatDoorR6
namespace Go.Proofs.YtdojchamdcokiaaGreatDoor
open Go.RowKit Reply

theorem eqd (a b : B) : (a == b) = decide (a = b) := by rw [Bool.eq_iff_iff]; simp
theorem hdr_f1 {h : B × B} (t : tokn h.1 = false) : hdr h = false := by rw [hdr_is, t]; rfl
theorem hdr_f2 {h : B × B} (t : decide (small h.1 = nCL) = true) : hdr h = false := by rw [hdr_is, t]; simp
theorem hdr_f3 {h : B × B} (t : decide (small h.1 = nCo) = true) : hdr h = false := by rw [hdr_is, t]; simp
theorem hdr_f4 {h : B × B} (t : decide (small h.1 = nTE) = true) : hdr h = false := by rw [hdr_is, t]; simp
theorem hdr_f5 {h : B × B} (t : decide (trim h.2 = h.2) = false) : hdr h = false := by rw [hdr_is, t]; simp
theorem hdr_fv {h : B × B} (t : val h.2 = false) : hdr h = false := by rw [hdr_is, t]; simp
theorem hdr_t {h : B × B} (t1 : tokn h.1 = true) (t2 : decide (small h.1 = nCL) = false) (t3 : decide (small h.1 = nCo) = false) (t4 : decide (small h.1 = nTE) = false) (t5 : decide (trim h.2 = h.2) = true) (tv : val h.2 = true) : hdr h = true := by rw [hdr_is, t1, t2, t3, t4, t5, tv]; rfl
theorem val_bad {l : B} {c : UInt8} (hm : c ∈ l) (h : valB c = false) : val l = false := by
  unfold val
  rw [List.all_eq_false]
  exact ⟨c, hm, by simp [h]⟩
theorem val_all {l : B} (h : ∀ c ∈ l, valB c = true) : val l = true := by
  unfold val
  rw [List.all_eq_true]
  exact h
theorem valB_of {c : UInt8} {x : Nat} (hx : x = c.toNat) (h : (32 ≤ x ∨ x = 9) ∧ x ≠ 127) : valB c = true := by
  subst hx
  unfold valB
  rcases h with ⟨h | h, h2⟩
  · rw [decide_eq_false (by omega : ¬ c.toNat < 32), decide_eq_true h2]; rfl
  · rw [decide_eq_false (by omega : ¬ c.toNat ≠ 9), decide_eq_true h2]; simp
theorem valB_no {c : UInt8} {x : Nat} (hx : x = c.toNat) (h : ¬ ((32 ≤ x ∨ x = 9) ∧ x ≠ 127)) : valB c = false := by
  subst hx
  unfold valB
  by_cases h2 : c.toNat = 127
  · rw [decide_eq_false (by omega : ¬ c.toNat ≠ 127)]; simp
  · rw [decide_eq_true (by omega : c.toNat < 32), decide_eq_true (by omega : c.toNat ≠ 9)]; rfl
set_option maxRecDepth 100000 in
set_option maxHeartbeats 8000000 in
theorem rgood_any (w : World) (r : Rs) (A : Option Addr) (c : Nat) (hf : RFit r) (hA : HAt w A r.headers) :
    Calls Tryz.prog 9 #[rV r A c] w fun e w' => e = .returned (.bool (good r)) ∧ Below w.heap.size w w' := by
  have HF := Lib.hid hf
  have HA := Lib.hid hA
  unfold rV
  obtain ⟨n, hn⟩ : ∃ n, n = r.headers.length := ⟨_, rfl⟩
  obtain ⟨bs, hbs⟩ : ∃ x, x = S r.body := ⟨_, rfl⟩
  obtain ⟨m, hm⟩ : ∃ x, x = r.body.length := ⟨_, rfl⟩
  have hbz : bs.size = m := by rw [hbs, S_size, hm]
  have fb : bs.toList.isEmpty = decide (r.body = []) := by rw [hbs]; exact S_empty _
  obtain ⟨st, hst⟩ : ∃ x, x = r.status := ⟨_, rfl⟩
  obtain ⟨hd, hhd⟩ : ∃ x, x = r.head := ⟨_, rfl⟩
  obtain ⟨cl, hcl⟩ : ∃ x, x = r.close := ⟨_, rfl⟩
  have RR := Lib.hid (fun u => rreason_any st u)
  obtain ⟨z, hz⟩ : ∃ x, x = S (reason st) := ⟨_, rfl⟩
  have fz : z.toList.isEmpty = decide (reason st = []) := by rw [hz]; exact S_empty _
  rw [← hn, ← hbs, ← hst, ← hhd, ← hcl]
  rw [← hz] at RR
  have HN := Lib.hid hn
  have HM0 := Lib.hid hm
  have hnb : n ≤ 1048576 := by rw [hn]; exact hf.n
  have hmb : m ≤ 1048576 := by rw [hm]; exact hf.body
  obtain ⟨W0, hW0⟩ : ∃ x, x = w.alloc (.cells #[.int .i64 st, .slice A n c, .string bs, .bool hd, .bool cl] 24) := ⟨_, rfl⟩
  have HW0 := Lib.hid hW0
  have C1 : Hid (W0.cell? ⟨w.heap.size, 1, none⟩ = some (.slice A n c)) := by show _ = _; rw [hW0, World.cell?_alloc_mark]; rfl
  have W0S : Hid (W0.heap.size = w.heap.size + 1) := by show _ = _; rw [hW0]; exact World.size_alloc _ _
  have B0 : Hid (Below w.heap.size w W0) := by show Below _ _ _; rw [hW0]; exact (Below.refl _ _).alloc (Nat.le_refl _) _
  clear hn hbs hhd hcl hz hf hA hW0 hm
  by_cases g0 : reason st = []
  · have F : Hid (good r = false) := bad_reason (by rw [← hst]; exact g0)
    rw [decide_eq_true g0] at fz
    clear g0 hst fb hbz
    go_enter Tryz.func9, Tryz.ntmps9
    go_wp2_with fail
    refine (RR.out _).mono ?_
    rintro e w' ⟨rfl, rfl⟩
    go_wp2
    go_ret
    exact ⟨ret_bool F.out.symm, (Below.refl _ _).alloc (Nat.le_refl _) _⟩
  · rw [decide_eq_false g0] at fz
    have HR : Hid (reason r.status ≠ []) := by show _ ≠ _; rw [← hst]; exact g0
    by_cases g1 : 32 < n
    · have F : Hid (good r = false) := bad_count (by rw [← HN.out]; exact g1)
      have g1z : (32 : Int) < (n : Int) := by omega
      clear g0 hst fb hbz
      go_enter Tryz.func9, Tryz.ntmps9
      go_wp2_with fail
      refine (RR.out _).mono ?_
      rintro e w' ⟨rfl, rfl⟩
      go_wp2
      go_ret
      exact ⟨ret_bool F.out.symm, (Below.refl _ _).alloc (Nat.le_refl _) _⟩
    · have g1z : ¬ (32 : Int) < (n : Int) := by omega
      by_cases g2 : 65536 < m
      · have F : Hid (good r = false) := bad_body (by rw [← HM0.out]; exact g2)
        have g2z : (65536 : Int) < (bs.size : Int) := by omega
        clear g0 hst fb hbz
        go_enter Tryz.func9, Tryz.ntmps9
        go_wp2_with fail
        refine (RR.out _).mono ?_
        rintro e w' ⟨rfl, rfl⟩
        go_wp2
        go_ret
        exact ⟨ret_bool F.out.symm, (Below.refl _ _).alloc (Nat.le_refl _) _⟩
      · have g2z : ¬ (65536 : Int) < (bs.size : Int) := by omega
        have HBZ : Hid (r.body.length ≤ 65536) := by show _ ≤ _; rw [← HM0.out]; omega
        by_cases g3 : st = 204
        · have s1 : (st == 204) = true := by rw [g3]; rfl
          by_cases g4 : r.body = []
          · rw [decide_eq_true g4] at fb
            have H204 : Hid (r.status = 204 → r.body = []) := fun _ => g4
            clear g0 hst hbz g3 g4
            go_enter Tryz.func9, Tryz.ntmps9
            go_wp2_with fail
            refine (RR.out _).mono ?_
            rintro e w' ⟨rfl, rfl⟩
            clear RR
            go_wp2
            go_loopw [3, 4, 5, 6] (fun v3 _ _ _ wr => ∃ k : Nat, k ≤ n ∧ v3 = .int .i64 k ∧ Hid ((∀ h ∈ r.headers.take k, hdr h = true) ∧ Below (w.heap.size + 1) W0 wr)) (fun v _ _ _ _ => n - (intOf v).toNat)
            case atStart => exact ⟨0, by omega, rfl, by simp, by rw [HW0.out]; exact Below.refl _ _⟩
            case round =>
              obtain ⟨k, hk, rfl, G⟩ := hrel
              have cB := (G.out.2.cell (p := ⟨w.heap.size, 1, none⟩) (by simp)).trans C1.out
              have BB : Hid (Below w.heap.size w wr) := B0.out.trans (G.out.2.mono (by omega))
              by_cases hlt : k < n
              · have hkl : Hid (k < r.headers.length) := by show k < _; rw [← HN.out]; exact hlt
                obtain ⟨h, hh⟩ : ∃ h, h = r.headers[k]'hkl.out := ⟨_, rfl⟩
                have HM : Hid (h ∈ r.headers) := by show h ∈ _; rw [hh]; exact List.getElem_mem _
                have HH := Lib.hid hh
                obtain ⟨g, off, rfl, a0, a1⟩ := (HA.out.below BB.out).at_ hkl.out
                rw [← hh] at a0 a1
                obtain ⟨ns, hns⟩ : ∃ x, x = S h.1 := ⟨_, rfl⟩
                obtain ⟨vs, hvs⟩ : ∃ x, x = S h.2 := ⟨_, rfl⟩
                obtain ⟨lo, hlo⟩ : ∃ x, x = S (small h.1) := ⟨_, rfl⟩
                obtain ⟨tv, htv⟩ : ∃ x, x = S (rtrim h.2) := ⟨_, rfl⟩
                have LN := (HF.out.each h HM.out).1
                have LV := (HF.out.each h HM.out).2
                have LW := Lib.hid (fun u => rlower_any u h.1 (by omega))
                have TK := Lib.hid (fun u => rtoken_any u ns (by rw [hns, S_size]; omega))
                have TR := Lib.hid (fun u => rtrim_any u h.2 (by omega))
                have NL : Hid (ns.data.toList = h.1) := by show _ = _; rw [hns]; rfl
                have VL : Hid (vs.data.toList = h.2) := by show _ = _; rw [hvs]; rfl
                have VZ : vs.size ≤ 4294967296 := by rw [hvs, S_size]; omega
                have f1 : (lo.toList == [99, 111, 110, 116, 101, 110, 116, 45, 108, 101, 110, 103, 116, 104]) = decide (small h.1 = nCL) := by rw [hlo, S_toList]; exact eqd _ _
                have f2 : (lo.toList == [99, 111, 110, 110, 101, 99, 116, 105, 111, 110]) = decide (small h.1 = nCo) := by rw [hlo, S_toList]; exact eqd _ _
                have f3 : (lo.toList == [116, 114, 97, 110, 115, 102, 101, 114, 45, 101, 110, 99, 111, 100, 105, 110, 103]) = decide (small h.1 = nTE) := by rw [hlo, S_toList]; exact eqd _ _
                have f5 : (tv.toList == vs.toList) = decide (trim h.2 = h.2) := by rw [htv, hvs, S_eq, trim_iff]
                have BR : Hid (Below w.heap.size w (wr.alloc (.cells #[.string ns, .string vs] 39))) := BB.out.alloc BB.out.size _
                have kz : (k : Int) < (n : Int) := by omega
                rw [NL.out] at TK
                rw [← hns, ← hlo] at LW
                rw [← hns] at a0
                rw [← hvs] at TR a1
                rw [← htv] at TR
                clear hh hns hvs htv hlo LN LV
                cases t1 : tokn h.1
                · rw [t1] at TK
                  have F : Hid (good r = false) := bad_head HM.out (hdr_f1 t1)
                  clear t1
                  go_wp2_with fail
                  refine (LW.out _).mono ?_
                  rintro e w2 ⟨rfl, hb2⟩
                  have V0 : w2.cell? ⟨wr.heap.size, 0, none⟩ = some (.string ns) := (hb2.cell (p := ⟨wr.heap.size, 0, none⟩) (by simp)).trans (by rw [World.cell?_alloc_mark]; rfl)
                  have V1 : w2.cell? ⟨wr.heap.size, 1, none⟩ = some (.string vs) := (hb2.cell (p := ⟨wr.heap.size, 1, none⟩) (by simp)).trans (by rw [World.cell?_alloc_mark]; rfl)
                  have B2 := Lib.hid (BR.out.trans (hb2.mono (by simp; have := BR.out.size; simp at this; exact this)))
                  clear hb2 LW
                  go_upto_region 8 with fail
                  go_quiet (first | (go_at_call 23; exact Calls.quiet_of_same ((TK.out _).mono fun _ _ h => ⟨h.1, h.2.symm⟩)) | (go_at_call 24; exact Calls.quiet_of_same ((TR.out _).mono fun _ _ h => ⟨h.1, h.2.symm⟩)))
                  go_wp2
                  go_ret
                  exact ⟨ret_bool F.out.symm, below_drewN B2.out _⟩
                · rw [t1] at TK
                  cases t2 : decide (small h.1 = nCL)
                  · rw [t2] at f1
                    cases t3 : decide (small h.1 = nCo)
                    · rw [t3] at f2
                      cases t4 : decide (small h.1 = nTE)
                      · rw [t4] at f3
                        cases t5 : decide (trim h.2 = h.2)
                        · rw [t5] at f5
                          have F : Hid (good r = false) := bad_head HM.out (hdr_f5 t5)
                          clear t1 t2 t3 t4 t5
                          go_wp2_with fail
                          refine (LW.out _).mono ?_
                          rintro e w2 ⟨rfl, hb2⟩
                          have V0 : w2.cell? ⟨wr.heap.size, 0, none⟩ = some (.string ns) := (hb2.cell (p := ⟨wr.heap.size, 0, none⟩) (by simp)).trans (by rw [World.cell?_alloc_mark]; rfl)
                          have V1 : w2.cell? ⟨wr.heap.size, 1, none⟩ = some (.string vs) := (hb2.cell (p := ⟨wr.heap.size, 1, none⟩) (by simp)).trans (by rw [World.cell?_alloc_mark]; rfl)
                          have B2 := Lib.hid (BR.out.trans (hb2.mono (by simp; have := BR.out.size; simp at this; exact this)))
                          clear hb2 LW
                          go_upto_region 8 with fail
                          go_quiet (first | (go_at_call 23; exact Calls.quiet_of_same ((TK.out _).mono fun _ _ h => ⟨h.1, h.2.symm⟩)) | (go_at_call 24; exact Calls.quiet_of_same ((TR.out _).mono fun _ _ h => ⟨h.1, h.2.symm⟩)))
                          go_wp2
                          go_ret
                          exact ⟨ret_bool F.out.symm, below_drewN B2.out _⟩
                        · rw [t5] at f5
                          have EV : Hid (val h.2 = true → hdr h = true) := fun hv => hdr_t t1 t2 t3 t4 t5 hv
                          have EX : Hid (val h.2 = false → hdr h = false) := hdr_fv
                          clear t1 t2 t3 t4 t5
                          go_wp2_with fail
                          refine (LW.out _).mono ?_
                          rintro e w2 ⟨rfl, hb2⟩
                          have V0 : w2.cell? ⟨wr.heap.size, 0, none⟩ = some (.string ns) := (hb2.cell (p := ⟨wr.heap.size, 0, none⟩) (by simp)).trans (by rw [World.cell?_alloc_mark]; rfl)
                          have V1 : w2.cell? ⟨wr.heap.size, 1, none⟩ = some (.string vs) := (hb2.cell (p := ⟨wr.heap.size, 1, none⟩) (by simp)).trans (by rw [World.cell?_alloc_mark]; rfl)
                          have B2 := Lib.hid (BR.out.trans (hb2.mono (by simp; have := BR.out.size; simp at this; exact this)))
                          have BW2 : Hid (Below (w.heap.size + 1) W0 w2) := (G.out.2.alloc (by have := G.out.2.size; rw [W0S.out] at this; exact this) _).trans (hb2.mono (by simp; have := G.out.2.size; rw [W0S.out] at this; omega))
                          have LT2 : Hid (wr.heap.size < w2.heap.size) := by have := hb2.size; simp at this; show _ < _; omega
                          clear hb2 LW
                          go_upto_region 8 with fail
                          go_quiet (first | (go_at_call 23; exact Calls.quiet_of_same ((TK.out _).mono fun _ _ h => ⟨h.1, h.2.symm⟩)) | (go_at_call 24; exact Calls.quiet_of_same ((TR.out _).mono fun _ _ h => ⟨h.1, h.2.symm⟩)))
                          have V1h := Lib.hid V1
                          clear V0 V1 f1 f2 f3 f5 TK TR cB a0 a1
                          go_wp2
                          go_loopw [6] (fun v wv => ∃ j : Nat, j ≤ vs.size ∧ v = .int .i64 j ∧ Hid (∀ c ∈ vs.data.toList.take j, valB c = true) ∧ Hid (∃ q, wv = w2.drewN q)) (fun v _ => vs.size - (intOf v).toNat)
                          case atStart => exact ⟨0, by omega, rfl, by show ∀ c ∈ _, _; simp, ⟨_, rfl⟩⟩
                          case round =>
                            obtain ⟨j, hj, rfl, hn, HV⟩ := hrel
                            obtain ⟨qv, rfl⟩ := HV.out
                            have v0 : w2.cell? ⟨wr.heap.size, 1, none⟩ = some (.string vs) := V1h.out
                            have Bv : Hid (Below w.heap.size w (w2.drewN qv)) := below_drewN B2.out qv
                            by_cases hjl : j < vs.size
                            · obtain ⟨ch, hc⟩ : ∃ c, c = (vs[j]'hjl) := ⟨_, rfl⟩
                              obtain ⟨x, hx⟩ : ∃ x, x = ch.toNat := ⟨_, rfl⟩
                              have hxe : ((vs[j]'hjl).toNat : Int) = (x : Int) := by rw [hx, hc]
                              have C := Lib.hid (hc.trans (at_list vs j hjl))
                              have X := Lib.hid hx
                              have hx8 : x < 256 := by rw [hx]; exact ch.toNat_lt
                              have hjz : (j : Int) < (vs.size : Int) := by omega
                              have MEM : Hid (ch ∈ h.2) := by show ch ∈ _; rw [← VL.out, C.out]; exact getD_memU (by rw [size_list]; exact hjl)
                              have NX : valB ch = true → Hid (∀ d ∈ vs.data.toList.take (j + 1), valB d = true) := fun ht => by
                                show ∀ d ∈ _, _
                                rw [take_nextU (by rw [size_list]; exact hjl), ← C.out]
                                intro d hd
                                rcases List.mem_append.1 hd with hd | hd
                                · exact hn.out d hd
                                · have : d = ch := by simpa using hd
                                  rw [this, ht]
                              clear hc hx
                              have parts : (x = 9) ∨ (x < 32 ∧ x ≠ 9) ∨ (x = 127) ∨ (32 ≤ x ∧ x ≠ 127) := by omega
                              rcases parts with hp | hp | hp | hp
                              · have N := NX (valB_of X.out (by omega))
                                have f1 : ((x : Int) == 9) = true := by rw [hp]; rfl
                                have f2 : ((x : Int) != 9) = false := by rw [hp]; rfl
                                have f3 : ((x : Int) == 127) = false := by rw [hp]; rfl
                                clear NX hp
                                go_wp2
                                go_roundw
                                case rel => exact ⟨j + 1, by omega, by go_num, N, ⟨_, rfl⟩⟩
                                case measure => simp [intOf]; omega
                              · have F : Hid (good r = false) := bad_head HM.out (EX.out (val_bad MEM.out (valB_no X.out (by omega))))
                                have f1 : ((x : Int) == 9) = false := by rw [beq_eq_false_iff_ne]; omega
                                have f2 : ((x : Int) != 9) = true := by rw [bne_iff_ne]; omega
                                have f4 : decide ((x : Int) < 32) = true := decide_eq_true (by omega)
                                clear NX hp
                                go_wp2
                                go_ret
                                exact ⟨ret_bool F.out.symm, Bv.out⟩
                              · have F : Hid (good r = false) := bad_head HM.out (EX.out (val_bad MEM.out (valB_no X.out (by omega))))
                                have f1 : ((x : Int) == 9) = false := by rw [beq_eq_false_iff_ne]; omega
                                have f2 : ((x : Int) != 9) = true := by rw [bne_iff_ne]; omega
                                have f4 : decide ((x : Int) < 32) = false := decide_eq_false (by omega)
                                have f3 : ((x : Int) == 127) = true := by rw [hp]; rfl
                                clear NX hp
                                go_wp2
                                go_ret
                                exact ⟨ret_bool F.out.symm, Bv.out⟩
                              · have N := NX (valB_of X.out (by omega))
                                have f1 : ((x : Int) == 9) = false := by rw [beq_eq_false_iff_ne]; omega
                                have f2 : ((x : Int) != 9) = true := by rw [bne_iff_ne]; omega
                                have f4 : decide ((x : Int) < 32) = false := decide_eq_false (by omega)
                                have f3 : ((x : Int) == 127) = false := by rw [beq_eq_false_iff_ne]; omega
                                clear NX hp
                                go_wp2
                                go_roundw
                                case rel => exact ⟨j + 1, by omega, by go_num, N, ⟨_, rfl⟩⟩
                                case measure => simp [intOf]; omega
                            · obtain rfl : j = vs.size := by omega
                              have VT : val h.2 = true := val_all (by have := hn.out; rwa [← size_list, List.take_length, VL.out] at this)
                              have G2 : Hid ((∀ h ∈ r.headers.take (k + 1), hdr h = true) ∧ Below (w.heap.size + 1) W0 (w2.drewN qv)) := ⟨fun d hd => by
                                rw [List.take_add_one, List.getElem?_eq_getElem hkl.out, ← HH.out] at hd
                                rcases List.mem_append.1 hd with hd | hd
                                · exact G.out.1 d hd
                                · have : d = h := by simpa using hd
                                  rw [this]
                                  exact EV.out VT, below_drewN BW2.out qv⟩
                              clear VT
                              go_wp2
                              go_roundw
                              case rel => exact ⟨k + 1, by omega, by go_num, G2⟩
                              case measure => simp [intOf]; omega
                      · rw [t4] at f3
                        have F : Hid (good r = false) := bad_head HM.out (hdr_f4 t4)
                        clear t1 t2 t3 t4
                        go_wp2_with fail
                        refine (LW.out _).mono ?_
                        rintro e w2 ⟨rfl, hb2⟩
                        have V0 : w2.cell? ⟨wr.heap.size, 0, none⟩ = some (.string ns) := (hb2.cell (p := ⟨wr.heap.size, 0, none⟩) (by simp)).trans (by rw [World.cell?_alloc_mark]; rfl)
                        have V1 : w2.cell? ⟨wr.heap.size, 1, none⟩ = some (.string vs) := (hb2.cell (p := ⟨wr.heap.size, 1, none⟩) (by simp)).trans (by rw [World.cell?_alloc_mark]; rfl)
                        have B2 := Lib.hid (BR.out.trans (hb2.mono (by simp; have := BR.out.size; simp at this; exact this)))
                        clear hb2 LW
                        go_upto_region 8 with fail
                        go_quiet (first | (go_at_call 23; exact Calls.quiet_of_same ((TK.out _).mono fun _ _ h => ⟨h.1, h.2.symm⟩)) | (go_at_call 24; exact Calls.quiet_of_same ((TR.out _).mono fun _ _ h => ⟨h.1, h.2.symm⟩)))
                        go_wp2
                        go_ret
                        exact ⟨ret_bool F.out.symm, below_drewN B2.out _⟩
                    · rw [t3] at f2
                      have F : Hid (good r = false) := bad_head HM.out (hdr_f3 t3)
                      clear t1 t2 t3
                      go_wp2_with fail
                      refine (LW.out _).mono ?_
                      rintro e w2 ⟨rfl, hb2⟩
                      have V0 : w2.cell? ⟨wr.heap.size, 0, none⟩ = some (.string ns) := (hb2.cell (p := ⟨wr.heap.size, 0, none⟩) (by simp)).trans (by rw [World.cell?_alloc_mark]; rfl)
                      have V1 : w2.cell? ⟨wr.heap.size, 1, none⟩ = some (.string vs) := (hb2.cell (p := ⟨wr.heap.size, 1, none⟩) (by simp)).trans (by rw [World.cell?_alloc_mark]; rfl)
                      have B2 := Lib.hid (BR.out.trans (hb2.mono (by simp; have := BR.out.size; simp at this; exact this)))
                      clear hb2 LW
                      go_upto_region 8 with fail
                      go_quiet (first | (go_at_call 23; exact Calls.quiet_of_same ((TK.out _).mono fun _ _ h => ⟨h.1, h.2.symm⟩)) | (go_at_call 24; exact Calls.quiet_of_same ((TR.out _).mono fun _ _ h => ⟨h.1, h.2.symm⟩)))
                      go_wp2
                      go_ret
                      exact ⟨ret_bool F.out.symm, below_drewN B2.out _⟩
                  · rw [t2] at f1
                    have F : Hid (good r = false) := bad_head HM.out (hdr_f2 t2)
                    clear t1 t2
                    go_wp2_with fail
                    refine (LW.out _).mono ?_
                    rintro e w2 ⟨rfl, hb2⟩
                    have V0 : w2.cell? ⟨wr.heap.size, 0, none⟩ = some (.string ns) := (hb2.cell (p := ⟨wr.heap.size, 0, none⟩) (by simp)).trans (by rw [World.cell?_alloc_mark]; rfl)
                    have V1 : w2.cell? ⟨wr.heap.size, 1, none⟩ = some (.string vs) := (hb2.cell (p := ⟨wr.heap.size, 1, none⟩) (by simp)).trans (by rw [World.cell?_alloc_mark]; rfl)
                    have B2 := Lib.hid (BR.out.trans (hb2.mono (by simp; have := BR.out.size; simp at this; exact this)))
                    clear hb2 LW
                    go_upto_region 8 with fail
                    go_quiet (first | (go_at_call 23; exact Calls.quiet_of_same ((TK.out _).mono fun _ _ h => ⟨h.1, h.2.symm⟩)) | (go_at_call 24; exact Calls.quiet_of_same ((TR.out _).mono fun _ _ h => ⟨h.1, h.2.symm⟩)))
                    go_wp2
                    go_ret
                    exact ⟨ret_bool F.out.symm, below_drewN B2.out _⟩
              · obtain rfl : k = n := by omega
                have F : Hid (good r = true) := good_all HR.out (by rw [← HN.out]; omega) HBZ.out (by have := G.out.1; rwa [HN.out, List.take_length] at this) H204.out
                go_wp2
                go_ret
                exact ⟨ret_bool F.out.symm, BB.out⟩
          · have F : Hid (good r = false) := bad_none (by rw [← hst]; exact g3) g4
            rw [decide_eq_false g4] at fb
            clear g0 hst hbz g3 g4
            go_enter Tryz.func9, Tryz.ntmps9
            go_wp2_with fail
            refine (RR.out _).mono ?_
            rintro e w' ⟨rfl, rfl⟩
            go_wp2
            go_ret
            exact ⟨ret_bool F.out.symm, (Below.refl _ _).alloc (Nat.le_refl _) _⟩
        · have s1 : (st == 204) = false := by rw [beq_eq_false_iff_ne]; exact g3
          have H204 : Hid (r.status = 204 → r.body = []) := fun h => absurd (hst.trans h) g3
          clear g0 hst hbz g3 fb
          go_enter Tryz.func9, Tryz.ntmps9
          go_wp2_with fail
          refine (RR.out _).mono ?_
          rintro e w' ⟨rfl, rfl⟩
          clear RR
          go_wp2
          go_loopw [3, 4, 5, 6] (fun v3 _ _ _ wr => ∃ k : Nat, k ≤ n ∧ v3 = .int .i64 k ∧ Hid ((∀ h ∈ r.headers.take k, hdr h = true) ∧ Below (w.heap.size + 1) W0 wr)) (fun v _ _ _ _ => n - (intOf v).toNat)
          case atStart => exact ⟨0, by omega, rfl, by simp, by rw [HW0.out]; exact Below.refl _ _⟩
          case round =>
            obtain ⟨k, hk, rfl, G⟩ := hrel
            have cB := (G.out.2.cell (p := ⟨w.heap.size, 1, none⟩) (by simp)).trans C1.out
            have BB : Hid (Below w.heap.size w wr) := B0.out.trans (G.out.2.mono (by omega))
            by_cases hlt : k < n
            · have hkl : Hid (k < r.headers.length) := by show k < _; rw [← HN.out]; exact hlt
              obtain ⟨h, hh⟩ : ∃ h, h = r.headers[k]'hkl.out := ⟨_, rfl⟩
              have HM : Hid (h ∈ r.headers) := by show h ∈ _; rw [hh]; exact List.getElem_mem _
              have HH := Lib.hid hh
              obtain ⟨g, off, rfl, a0, a1⟩ := (HA.out.below BB.out).at_ hkl.out
              rw [← hh] at a0 a1
              obtain ⟨ns, hns⟩ : ∃ x, x = S h.1 := ⟨_, rfl⟩
              obtain ⟨vs, hvs⟩ : ∃ x, x = S h.2 := ⟨_, rfl⟩
              obtain ⟨lo, hlo⟩ : ∃ x, x = S (small h.1) := ⟨_, rfl⟩
              obtain ⟨tv, htv⟩ : ∃ x, x = S (rtrim h.2) := ⟨_, rfl⟩
              have LN := (HF.out.each h HM.out).1
              have LV := (HF.out.each h HM.out).2
              have LW := Lib.hid (fun u => rlower_any u h.1 (by omega))
              have TK := Lib.hid (fun u => rtoken_any u ns (by rw [hns, S_size]; omega))
              have TR := Lib.hid (fun u => rtrim_any u h.2 (by omega))
              have NL : Hid (ns.data.toList = h.1) := by show _ = _; rw [hns]; rfl
              have VL : Hid (vs.data.toList = h.2) := by show _ = _; rw [hvs]; rfl
              have VZ : vs.size ≤ 4294967296 := by rw [hvs, S_size]; omega
              have f1 : (lo.toList == [99, 111, 110, 116, 101, 110, 116, 45, 108, 101, 110, 103, 116, 104]) = decide (small h.1 = nCL) := by rw [hlo, S_toList]; exact eqd _ _
              have f2 : (lo.toList == [99, 111, 110, 110, 101, 99, 116, 105, 111, 110]) = decide (small h.1 = nCo) := by rw [hlo, S_toList]; exact eqd _ _
              have f3 : (lo.toList == [116, 114, 97, 110, 115, 102, 101, 114, 45, 101, 110, 99, 111, 100, 105, 110, 103]) = decide (small h.1 = nTE) := by rw [hlo, S_toList]; exact eqd _ _
              have f5 : (tv.toList == vs.toList) = decide (trim h.2 = h.2) := by rw [htv, hvs, S_eq, trim_iff]
              have BR : Hid (Below w.heap.size w (wr.alloc (.cells #[.string ns, .string vs] 39))) := BB.out.alloc BB.out.size _
              have kz : (k : Int) < (n : Int) := by omega
              rw [NL.out] at TK
              rw [← hns, ← hlo] at LW
              rw [← hns] at a0
              rw [← hvs] at TR a1
              rw [← htv] at TR
              clear hh hns hvs htv hlo LN LV
              cases t1 : tokn h.1
              · rw [t1] at TK
                have F : Hid (good r = false) := bad_head HM.out (hdr_f1 t1)
                clear t1
                go_wp2_with fail
                refine (LW.out _).mono ?_
                rintro e w2 ⟨rfl, hb2⟩
                have V0 : w2.cell? ⟨wr.heap.size, 0, none⟩ = some (.string ns) := (hb2.cell (p := ⟨wr.heap.size, 0, none⟩) (by simp)).trans (by rw [World.cell?_alloc_mark]; rfl)
                have V1 : w2.cell? ⟨wr.heap.size, 1, none⟩ = some (.string vs) := (hb2.cell (p := ⟨wr.heap.size, 1, none⟩) (by simp)).trans (by rw [World.cell?_alloc_mark]; rfl)
                have B2 := Lib.hid (BR.out.trans (hb2.mono (by simp; have := BR.out.size; simp at this; exact this)))
                clear hb2 LW
                go_upto_region 8 with fail
                go_quiet (first | (go_at_call 23; exact Calls.quiet_of_same ((TK.out _).mono fun _ _ h => ⟨h.1, h.2.symm⟩)) | (go_at_call 24; exact Calls.quiet_of_same ((TR.out _).mono fun _ _ h => ⟨h.1, h.2.symm⟩)))
                go_wp2
                go_ret
                exact ⟨ret_bool F.out.symm, below_drewN B2.out _⟩
              · rw [t1] at TK
                cases t2 : decide (small h.1 = nCL)
                · rw [t2] at f1
                  cases t3 : decide (small h.1 = nCo)
                  · rw [t3] at f2
                    cases t4 : decide (small h.1 = nTE)
                    · rw [t4] at f3
                      cases t5 : decide (trim h.2 = h.2)
                      · rw [t5] at f5
                        have F : Hid (good r = false) := bad_head HM.out (hdr_f5 t5)
                        clear t1 t2 t3 t4 t5
                        go_wp2_with fail
                        refine (LW.out _).mono ?_
                        rintro e w2 ⟨rfl, hb2⟩
                        have V0 : w2.cell? ⟨wr.heap.size, 0, none⟩ = some (.string ns) := (hb2.cell (p := ⟨wr.heap.size, 0, none⟩) (by simp)).trans (by rw [World.cell?_alloc_mark]; rfl)
                        have V1 : w2.cell? ⟨wr.heap.size, 1, none⟩ = some (.string vs) := (hb2.cell (p := ⟨wr.heap.size, 1, none⟩) (by simp)).trans (by rw [World.cell?_alloc_mark]; rfl)
                        have B2 := Lib.hid (BR.out.trans (hb2.mono (by simp; have := BR.out.size; simp at this; exact this)))
                        clear hb2 LW
                        go_upto_region 8 with fail
                        go_quiet (first | (go_at_call 23; exact Calls.quiet_of_same ((TK.out _).mono fun _ _ h => ⟨h.1, h.2.symm⟩)) | (go_at_call 24; exact Calls.quiet_of_same ((TR.out _).mono fun _ _ h => ⟨h.1, h.2.symm⟩)))
                        go_wp2
                        go_ret
                        exact ⟨ret_bool F.out.symm, below_drewN B2.out _⟩
                      · rw [t5] at f5
                        have EV : Hid (val h.2 = true → hdr h = true) := fun hv => hdr_t t1 t2 t3 t4 t5 hv
                        have EX : Hid (val h.2 = false → hdr h = false) := hdr_fv
                        clear t1 t2 t3 t4 t5
                        go_wp2_with fail
                        refine (LW.out _).mono ?_
                        rintro e w2 ⟨rfl, hb2⟩
                        have V0 : w2.cell? ⟨wr.heap.size, 0, none⟩ = some (.string ns) := (hb2.cell (p := ⟨wr.heap.size, 0, none⟩) (by simp)).trans (by rw [World.cell?_alloc_mark]; rfl)
                        have V1 : w2.cell? ⟨wr.heap.size, 1, none⟩ = some (.string vs) := (hb2.cell (p := ⟨wr.heap.size, 1, none⟩) (by simp)).trans (by rw [World.cell?_alloc_mark]; rfl)
                        have B2 := Lib.hid (BR.out.trans (hb2.mono (by simp; have := BR.out.size; simp at this; exact this)))
                        have BW2 : Hid (Below (w.heap.size + 1) W0 w2) := (G.out.2.alloc (by have := G.out.2.size; rw [W0S.out] at this; exact this) _).trans (hb2.mono (by simp; have := G.out.2.size; rw [W0S.out] at this; omega))
                        have LT2 : Hid (wr.heap.size < w2.heap.size) := by have := hb2.size; simp at this; show _ < _; omega
                        clear hb2 LW
                        go_upto_region 8 with fail
                        go_quiet (first | (go_at_call 23; exact Calls.quiet_of_same ((TK.out _).mono fun _ _ h => ⟨h.1, h.2.symm⟩)) | (go_at_call 24; exact Calls.quiet_of_same ((TR.out _).mono fun _ _ h => ⟨h.1, h.2.symm⟩)))
                        have V1h := Lib.hid V1
                        clear V0 V1 f1 f2 f3 f5 TK TR cB a0 a1
                        go_wp2
                        go_loopw [6] (fun v wv => ∃ j : Nat, j ≤ vs.size ∧ v = .int .i64 j ∧ Hid (∀ c ∈ vs.data.toList.take j, valB c = true) ∧ Hid (∃ q, wv = w2.drewN q)) (fun v _ => vs.size - (intOf v).toNat)
                        case atStart => exact ⟨0, by omega, rfl, by show ∀ c ∈ _, _; simp, ⟨_, rfl⟩⟩
                        case round =>
                          obtain ⟨j, hj, rfl, hn, HV⟩ := hrel
                          obtain ⟨qv, rfl⟩ := HV.out
                          have v0 : w2.cell? ⟨wr.heap.size, 1, none⟩ = some (.string vs) := V1h.out
                          have Bv : Hid (Below w.heap.size w (w2.drewN qv)) := below_drewN B2.out qv
                          by_cases hjl : j < vs.size
                          · obtain ⟨ch, hc⟩ : ∃ c, c = (vs[j]'hjl) := ⟨_, rfl⟩
                            obtain ⟨x, hx⟩ : ∃ x, x = ch.toNat := ⟨_, rfl⟩
                            have hxe : ((vs[j]'hjl).toNat : Int) = (x : Int) := by rw [hx, hc]
                            have C := Lib.hid (hc.trans (at_list vs j hjl))
                            have X := Lib.hid hx
                            have hx8 : x < 256 := by rw [hx]; exact ch.toNat_lt
                            have hjz : (j : Int) < (vs.size : Int) := by omega
                            have MEM : Hid (ch ∈ h.2) := by show ch ∈ _; rw [← VL.out, C.out]; exact getD_memU (by rw [size_list]; exact hjl)
                            have NX : valB ch = true → Hid (∀ d ∈ vs.data.toList.take (j + 1), valB d = true) := fun ht => by
                              show ∀ d ∈ _, _
                              rw [take_nextU (by rw [size_list]; exact hjl), ← C.out]
                              intro d hd
                              rcases List.mem_append.1 hd with hd | hd
                              · exact hn.out d hd
                              · have : d = ch := by simpa using hd
                                rw [this, ht]
                            clear hc hx
                            have parts : (x = 9) ∨ (x < 32 ∧ x ≠ 9) ∨ (x = 127) ∨ (32 ≤ x ∧ x ≠ 127) := by omega
                            rcases parts with hp | hp | hp | hp
                            · have N := NX (valB_of X.out (by omega))
                              have f1 : ((x : Int) == 9) = true := by rw [hp]; rfl
                              have f2 : ((x : Int) != 9) = false := by rw [hp]; rfl
                              have f3 : ((x : Int) == 127) = false := by rw [hp]; rfl
                              clear NX hp
                              go_wp2
                              go_roundw
                              case rel => exact ⟨j + 1, by omega, by go_num, N, ⟨_, rfl⟩⟩
                              case measure => simp [intOf]; omega
                            · have F : Hid (good r = false) := bad_head HM.out (EX.out (val_bad MEM.out (valB_no X.out (by omega))))
                              have f1 : ((x : Int) == 9) = false := by rw [beq_eq_false_iff_ne]; omega
                              have f2 : ((x : Int) != 9) = true := by rw [bne_iff_ne]; omega
                              have f4 : decide ((x : Int) < 32) = true := decide_eq_true (by omega)
                              clear NX hp
                              go_wp2
                              go_ret
                              exact ⟨ret_bool F.out.symm, Bv.out⟩
                            · have F : Hid (good r = false) := bad_head HM.out (EX.out (val_bad MEM.out (valB_no X.out (by omega))))
                              have f1 : ((x : Int) == 9) = false := by rw [beq_eq_false_iff_ne]; omega
                              have f2 : ((x : Int) != 9) = true := by rw [bne_iff_ne]; omega
                              have f4 : decide ((x : Int) < 32) = false := decide_eq_false (by omega)
                              have f3 : ((x : Int) == 127) = true := by rw [hp]; rfl
                              clear NX hp
                              go_wp2
                              go_ret
                              exact ⟨ret_bool F.out.symm, Bv.out⟩
                            · have N := NX (valB_of X.out (by omega))
                              have f1 : ((x : Int) == 9) = false := by rw [beq_eq_false_iff_ne]; omega
                              have f2 : ((x : Int) != 9) = true := by rw [bne_iff_ne]; omega
                              have f4 : decide ((x : Int) < 32) = false := decide_eq_false (by omega)
                              have f3 : ((x : Int) == 127) = false := by rw [beq_eq_false_iff_ne]; omega
                              clear NX hp
                              go_wp2
                              go_roundw
                              case rel => exact ⟨j + 1, by omega, by go_num, N, ⟨_, rfl⟩⟩
                              case measure => simp [intOf]; omega
                          · obtain rfl : j = vs.size := by omega
                            have VT : val h.2 = true := val_all (by have := hn.out; rwa [← size_list, List.take_length, VL.out] at this)
                            have G2 : Hid ((∀ h ∈ r.headers.take (k + 1), hdr h = true) ∧ Below (w.heap.size + 1) W0 (w2.drewN qv)) := ⟨fun d hd => by
                              rw [List.take_add_one, List.getElem?_eq_getElem hkl.out, ← HH.out] at hd
                              rcases List.mem_append.1 hd with hd | hd
                              · exact G.out.1 d hd
                              · have : d = h := by simpa using hd
                                rw [this]
                                exact EV.out VT, below_drewN BW2.out qv⟩
                            clear VT
                            go_wp2
                            go_roundw
                            case rel => exact ⟨k + 1, by omega, by go_num, G2⟩
                            case measure => simp [intOf]; omega
                    · rw [t4] at f3
                      have F : Hid (good r = false) := bad_head HM.out (hdr_f4 t4)
                      clear t1 t2 t3 t4
                      go_wp2_with fail
                      refine (LW.out _).mono ?_
                      rintro e w2 ⟨rfl, hb2⟩
                      have V0 : w2.cell? ⟨wr.heap.size, 0, none⟩ = some (.string ns) := (hb2.cell (p := ⟨wr.heap.size, 0, none⟩) (by simp)).trans (by rw [World.cell?_alloc_mark]; rfl)
                      have V1 : w2.cell? ⟨wr.heap.size, 1, none⟩ = some (.string vs) := (hb2.cell (p := ⟨wr.heap.size, 1, none⟩) (by simp)).trans (by rw [World.cell?_alloc_mark]; rfl)
                      have B2 := Lib.hid (BR.out.trans (hb2.mono (by simp; have := BR.out.size; simp at this; exact this)))
                      clear hb2 LW
                      go_upto_region 8 with fail
                      go_quiet (first | (go_at_call 23; exact Calls.quiet_of_same ((TK.out _).mono fun _ _ h => ⟨h.1, h.2.symm⟩)) | (go_at_call 24; exact Calls.quiet_of_same ((TR.out _).mono fun _ _ h => ⟨h.1, h.2.symm⟩)))
                      go_wp2
                      go_ret
                      exact ⟨ret_bool F.out.symm, below_drewN B2.out _⟩
                  · rw [t3] at f2
                    have F : Hid (good r = false) := bad_head HM.out (hdr_f3 t3)
                    clear t1 t2 t3
                    go_wp2_with fail
                    refine (LW.out _).mono ?_
                    rintro e w2 ⟨rfl, hb2⟩
                    have V0 : w2.cell? ⟨wr.heap.size, 0, none⟩ = some (.string ns) := (hb2.cell (p := ⟨wr.heap.size, 0, none⟩) (by simp)).trans (by rw [World.cell?_alloc_mark]; rfl)
                    have V1 : w2.cell? ⟨wr.heap.size, 1, none⟩ = some (.string vs) := (hb2.cell (p := ⟨wr.heap.size, 1, none⟩) (by simp)).trans (by rw [World.cell?_alloc_mark]; rfl)
                    have B2 := Lib.hid (BR.out.trans (hb2.mono (by simp; have := BR.out.size; simp at this; exact this)))
                    clear hb2 LW
                    go_upto_region 8 with fail
                    go_quiet (first | (go_at_call 23; exact Calls.quiet_of_same ((TK.out _).mono fun _ _ h => ⟨h.1, h.2.symm⟩)) | (go_at_call 24; exact Calls.quiet_of_same ((TR.out _).mono fun _ _ h => ⟨h.1, h.2.symm⟩)))
                    go_wp2
                    go_ret
                    exact ⟨ret_bool F.out.symm, below_drewN B2.out _⟩
                · rw [t2] at f1
                  have F : Hid (good r = false) := bad_head HM.out (hdr_f2 t2)
                  clear t1 t2
                  go_wp2_with fail
                  refine (LW.out _).mono ?_
                  rintro e w2 ⟨rfl, hb2⟩
                  have V0 : w2.cell? ⟨wr.heap.size, 0, none⟩ = some (.string ns) := (hb2.cell (p := ⟨wr.heap.size, 0, none⟩) (by simp)).trans (by rw [World.cell?_alloc_mark]; rfl)
                  have V1 : w2.cell? ⟨wr.heap.size, 1, none⟩ = some (.string vs) := (hb2.cell (p := ⟨wr.heap.size, 1, none⟩) (by simp)).trans (by rw [World.cell?_alloc_mark]; rfl)
                  have B2 := Lib.hid (BR.out.trans (hb2.mono (by simp; have := BR.out.size; simp at this; exact this)))
                  clear hb2 LW
                  go_upto_region 8 with fail
                  go_quiet (first | (go_at_call 23; exact Calls.quiet_of_same ((TK.out _).mono fun _ _ h => ⟨h.1, h.2.symm⟩)) | (go_at_call 24; exact Calls.quiet_of_same ((TR.out _).mono fun _ _ h => ⟨h.1, h.2.symm⟩)))
                  go_wp2
                  go_ret
                  exact ⟨ret_bool F.out.symm, below_drewN B2.out _⟩
            · obtain rfl : k = n := by omega
              have F : Hid (good r = true) := good_all HR.out (by rw [← HN.out]; omega) HBZ.out (by have := G.out.1; rwa [HN.out, List.take_length] at this) H204.out
              go_wp2
              go_ret
              exact ⟨ret_bool F.out.symm, BB.out⟩
end Go.Proofs.YtdojchamdcokiaaGreatDoor
