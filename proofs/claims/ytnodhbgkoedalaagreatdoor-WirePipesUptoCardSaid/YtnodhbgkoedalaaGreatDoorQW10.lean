/-
  wire: a header. · wire: a step of the reader. · wire: a step of the reader, in memory; its loop over a string. · wire: the reader's loop over a string.
-/
import Derived.Test.YtnodhbgkoedalaaGreatDoorQW8
namespace Go.Proofs.YtnodhbgkoedalaaGreatDoor
open Go.RowKit Reply

theorem ite_of {c p q : Prop} [Decidable c] (h : c) (hp : p) : if c then p else q := by rw [if_pos h]; exact hp
set_option maxRecDepth 100000 in
/-- append(s, x...), as one operation of a region. -/
theorem oper_append_h {w : World} {o : Oper} {a : Act} {Q : Exit → Act → World → Prop} {K : Act → World → Prop} (s x : Operand)
    (ho : o.op = .call { callee := .builtin .append, args := #[s, x], argTypes := #[24, 24] })
    (base : Nat) (v : Value) (k : List (Reply.B × Reply.B)) (hs : a.eval s = v) (hown : OwnH w base v k)
    (ad : Addr) (m c : Nat) (l : List (Reply.B × Reply.B)) (hx : a.eval x = .slice (some ad) m c) (hl : l.length = m) (hA : HAt w (some ad) l) (hr : k.length + m ≤ 100000) (hbase : base ≤ w.heap.size)
    (h : ∀ v' w', OwnH w' base v' (k ++ l) → w.grownBy w' v.ownBlock → K (a.put o.dst v') w') : Oper.wp Tryz.prog o a w K Q := by
  obtain ⟨v', w', hrun, h2, h3⟩ := run_append_h base o.type v k hown ad m c l hl hA hr hbase
  unfold Oper.wp execOp
  simp only [ho, resolve, invoke, builtin, Sem.run_bind, Sem.run_pure, Result.andThen_ok, List.map_toArray, List.map_cons, List.map_nil, hs, hx, hrun]
  exact h v' w' h2 h3
section
variable {w0 w : World} {Bn p : Nat} {ty : TypeId} {z : List Value} {s : Wire.St} {A : Option Addr} {c : Nat}
theorem RdS.grown {w' : World} (h : RdS w0 Bn w p ty z s A c) (hg : w.grownBy w' (Value.slice A s.q.headers.length c).ownBlock) : Held w' p ty (rdL s A c ++ z).toArray ∧ Below w0.heap.size w0 w' ∧ Bn ≤ w'.heap.size ∧ Fr Bn p w w' := by
  have hr : ∀ k, (Value.slice A s.q.headers.length c).ownBlock = some k → Bn ≤ k := fun k e => (h.row.lt k e).1
  refine ⟨?_, ?_, Nat.le_trans h.sz hg.size, (Fr.refl Bn p w).grown hg h.sz hr⟩
  · exact (hg.block p h.blk.lt (fun e => h.far p e.symm (by simp))).trans h.blk
  · exact h.bel.trans ⟨hg.os, hg.tape, hg.output, hg.size, fun k hk => hg.block k (by have := h.bel.size; omega) (fun e => by have := hr k e.symm; have := h.lB; omega)⟩
theorem RdS.push {w' : World} (h : RdS w0 Bn w p ty z s A c) {A' : Option Addr} {c' : Nat} {hs : List (Reply.B × Reply.B)} (ho : OwnH w' Bn (.slice A' hs.length c') hs) (hg : w.grownBy w' (Value.slice A s.q.headers.length c).ownBlock) :
    RdS w0 Bn (w'.setCell ⟨p, 6, none⟩ (.slice A' hs.length c')) p ty z { s with q := { s.q with headers := hs } } A' c' := by
  obtain ⟨b, k, sz, _⟩ := h.grown hg
  have b6 := b.set_ 6 (.slice A' hs.length c')
  rw [List.setIfInBounds_toArray] at b6
  have r := (set_only p 6 w' (.slice A' hs.length c')).row ho (fun g hg hm => Held.ne_row b ho h.tyn g hg (by simpa using hm))
  exact ⟨h.env, h.l0, h.lB, k.setCell (p := ⟨p, 6, none⟩) h.l0 _, Nat.le_trans sz (by simp [World.setCell]), h.tyn, b6, r⟩
set_option maxRecDepth 100000 in
set_option maxHeartbeats 8000000 in
theorem takeHeader_any (h : RdS w0 Bn w p ty z s A c) (l : Reply.B) (hl : l.length ≤ 1048576) (hh : s.head ≤ 4096) (hc : s.q.headers.length ≤ 32) (hv : ∀ x ∈ s.q.headers, x.2.length ≤ 1073741824) (CL : ClosesC s.q.headers) :
    Calls Tryz.prog 26 #[.pointer (some ⟨p, 0, none⟩), .string (S l)] w fun e w' => Took w0 Bn w p ty z (Wire.takeHeader s l) e w' := by
  have BA := Lib.hid (bare_any w l 431 (by omega))
  have bl := bare_len l 431
  obtain ⟨a, ha⟩ : ∃ x, x = (Wire.bare l 431).1 := ⟨_, rfl⟩
  obtain ⟨t, hT⟩ : ∃ x, x = (Wire.bare l 431).2 := ⟨_, rfl⟩
  rw [← ha] at bl
  have b1 := cut1_len a [58]
  have b2 := cut2_len a [58]
  have C1 : Hid (∀ u, RdS w0 Bn u p ty z { s with head := s.head + l.length } A c → Calls Tryz.prog 35 #[.string (S a), .string ⟨#[58]⟩] u fun e w' => e = .returned (.tuple #[.string (S (Lib.cut a [58]).1), .string (S (Lib.cut a [58]).2.1), .bool (Lib.cut a [58]).2.2]) ∧ Below u.heap.size u w') := fun u k => cut_any u k.envw a [58] (by omega)
  have EH := Lib.hid (endHead_any h hc hv CL)
  obtain ⟨m, hm⟩ : ∃ x, x = (Lib.cut a [58]).1 := ⟨_, rfl⟩
  obtain ⟨v, hvv⟩ : ∃ x, x = (Lib.cut a [58]).2.1 := ⟨_, rfl⟩
  obtain ⟨k1, hk1⟩ : ∃ x, x = (Lib.cut a [58]).2.2 := ⟨_, rfl⟩
  rw [← hm] at b1
  rw [← hvv] at b2
  obtain ⟨s1, hs1⟩ : ∃ s1 : Wire.St, s1 = { s with head := s.head + l.length } := ⟨_, rfl⟩
  obtain ⟨n, hn⟩ : ∃ n, n = s.q.headers.length := ⟨_, rfl⟩
  obtain ⟨hd, hhd⟩ : ∃ n, n = s.head := ⟨_, rfl⟩
  obtain ⟨ll, hll⟩ : ∃ n, n = l.length := ⟨_, rfl⟩
  have E : Hid (Wire.takeHeader s l = if t ≠ 0 then (t, s) else if a = [] then Wire.endHead s else if 4096 < hd + ll ∨ n = 32 then (431, s1) else if !k1 || !tokn m || !val v then (400, s1) else (0, { s1 with q := { s1.q with headers := s1.q.headers ++ [(small m, trim v)] } })) := by show _ = _; unfold Wire.takeHeader; dsimp only; rw [← ha, ← hT, ← hm, ← hvv, ← hk1, hs1, hn, hhd, hll]
  have Q1 : Hid (s1.q.headers.length = n) := by show _ = _; rw [hs1, hn]
  rw [← hm, ← hvv, ← hk1, ← hs1] at C1
  rw [← ha, ← hT] at BA
  obtain ⟨R, hR⟩ : ∃ x, x = Wire.takeHeader s l := ⟨_, rfl⟩
  rw [← hR] at E ⊢
  have f1 : (S a).toList.isEmpty = decide (a = []) := S_empty a
  have TK := Lib.hid (fun u => istoken_any u (S m) (by rw [S_size]; omega))
  have VA := Lib.hid (fun u => isvalue_any u (S v) (by rw [S_size]; omega))
  have SM := Lib.hid (fun u => fsmall_any u m (by omega))
  have TR := Lib.hid (fun u => ftrim_any u v (by omega))
  rw [S_list] at TK VA
  obtain ⟨d1, hd1⟩ : ∃ x, x = tokn m := ⟨_, rfl⟩
  obtain ⟨d2, hd2⟩ : ∃ x, x = val v := ⟨_, rfl⟩
  rw [← hd1] at TK E
  rw [← hd2] at VA E
  obtain ⟨sm, hsm⟩ : ∃ x, x = S (small m) := ⟨_, rfl⟩
  obtain ⟨st, hst⟩ : ∃ x, x = S (trim v) := ⟨_, rfl⟩
  rw [← hsm] at SM
  rw [← hst] at TR
  have HSM : Hid (sm.data.toList = small m) := by show _ = _; rw [hsm]; rfl
  have HST : Hid (st.data.toList = trim v) := by show _ = _; rw [hst]; rfl
  obtain ⟨as_, has⟩ : ∃ x, x = S a := ⟨_, rfl⟩
  obtain ⟨ms, hms⟩ : ∃ x, x = S m := ⟨_, rfl⟩
  obtain ⟨vs, hvs⟩ : ∃ x, x = S v := ⟨_, rfl⟩
  obtain ⟨ls, hls⟩ : ∃ x, x = S l := ⟨_, rfl⟩
  have lsz : ls.size = ll := by rw [hls, S_size, hll]
  have SZ := Lib.hid h.sz
  have c2 : w.cell? ⟨p, 2, none⟩ = some (.int .i64 (hd : Int)) := by rw [hhd]; exact h.cell 2
  have y2 := h.frozen 2
  have H1 : Hid (RdS w0 Bn (w.setCell ⟨p, 2, none⟩ (.int .i64 ((hd : Int) + (ll : Int)))) p ty z s1 A c) := by
    show RdS _ _ _ _ _ _ _ _ _
    have k := h.head_ (s.head + l.length)
    rw [← hs1, ← hhd, ← hll] at k
    exact k
  have D1 : Hid (Fr Bn p w (w.setCell ⟨p, 2, none⟩ (.int .i64 ((hd : Int) + (ll : Int))))) := (Fr.refl _ _ _).set_ 2 _
  have c6 : w.cell? ⟨p, 6, none⟩ = some (.slice A n c) := by rw [hn]; exact h.cell 6
  have FE : Hid (∀ (u : World) (r : Int), RdS w0 Bn u p ty z s1 A c → Fr Bn p w u → R = (r, s1) → Took w0 Bn w p ty z R (.returned (.int .i64 r)) u) := fun u r k f e => by rw [e]; exact ⟨rfl, ⟨A, c, k⟩, f⟩
  have F0 : Hid (R = (t, s) → Took w0 Bn w p ty z R (.returned (.int .i64 t)) w) := fun e => by rw [e]; exact ⟨rfl, ⟨A, c, h⟩, Fr.refl _ _ _⟩
  have ndz : hd ≤ 4096 := by omega
  have nlz : ll ≤ 1048576 := by omega
  rw [← has] at f1 BA C1
  rw [← hms] at C1 TK SM
  rw [← hvs] at C1 VA TR
  rw [← hls] at BA ⊢
  have ncz : n ≤ 32 := by omega
  clear h ha hT hm hvv hk1 hs1 hn hhd hll hR hd1 hd2 hsm hst has hms hvs hls bl b1 b2 hh hc hv CL hl
  by_cases ht : t = 0
  · subst ht
    have E2 := Lib.hid (E.out.trans (if_neg (by simp)))
    clear E F0
    by_cases ha0 : a = []
    · rw [decide_eq_true ha0] at f1
      have E3 := Lib.hid (E2.out.trans (if_pos ha0))
      clear E2 FE C1 TK VA SM TR H1 D1 c6 c2 y2 ha0 lsz
      go_enter Tryz.func26, Tryz.ntmps26
      go_wp2_with fail
      refine BA.out.mono ?_
      rintro e w' ⟨rfl, rfl⟩
      clear BA
      go_wp2_with fail
      refine EH.out.mono ?_
      rintro e w6 ⟨rfl, h61, h62⟩
      have G : Hid (Took w0 Bn w p ty z R (.returned (.int .i64 (Wire.endHead s).1)) w6) := by show Took _ _ _ _ _ _ _ _ _; rw [E3.out]; exact ⟨rfl, h61, h62⟩
      clear EH h61 h62
      go_wp2_with fail
      go_ret
      exact G.out
    · rw [decide_eq_false ha0] at f1
      have E3 := Lib.hid (E2.out.trans (if_neg ha0))
      clear E2 ha0 EH
      have q1 : (hd : Int) + (ll : Int) ≤ 1052672 := by omega
      by_cases hgt : 4096 < hd + ll
      · have g1 : decide ((4096 : Int) < (hd : Int) + (ll : Int)) = true := decide_eq_true (by omega)
        have g1' : (4096 : Int) < (hd : Int) + (ll : Int) := by omega
        have G := Lib.hid (FE.out _ 431 H1.out D1.out (by rw [E3.out, if_pos (.inl hgt)]))
        clear E3 FE C1 TK VA SM TR H1 D1 hgt
        go_enter Tryz.func26, Tryz.ntmps26
        go_wp2_with fail
        refine BA.out.mono ?_
        rintro e w' ⟨rfl, rfl⟩
        clear BA
        go_wp2_with fail
        go_ret
        exact G.out
      · have g1 : decide ((4096 : Int) < (hd : Int) + (ll : Int)) = false := decide_eq_false (by omega)
        have g1' : ¬ (4096 : Int) < (hd : Int) + (ll : Int) := by omega
        by_cases hn : n = 32
        · have g2 : ((n : Int) == 32) = true := by rw [hn]; rfl
          have G := Lib.hid (FE.out _ 431 H1.out D1.out (by rw [E3.out, if_pos (.inr hn)]))
          clear E3 FE C1 TK VA SM TR H1 D1 hgt hn
          go_enter Tryz.func26, Tryz.ntmps26
          go_wp2_with fail
          refine BA.out.mono ?_
          rintro e w' ⟨rfl, rfl⟩
          clear BA
          go_wp2_with fail
          go_ret
          exact G.out
        · have g2 : ((n : Int) == 32) = false := by rw [beq_eq_false_iff_ne]; omega
          have E4 := Lib.hid (E3.out.trans (if_neg (fun x => x.elim hgt hn)))
          clear E3 hgt
          cases k1
          · skip
            have G := Lib.hid (fun u k f => FE.out u 400 k f E4.out)
            clear E4 FE TK VA SM TR hn
            go_enter Tryz.func26, Tryz.ntmps26
            go_wp2_with fail
            refine BA.out.mono ?_
            rintro e w' ⟨rfl, rfl⟩
            clear BA
            go_wp2_with fail
            refine (C1.out _ H1.out).mono ?_
            rintro e w2 ⟨rfl, hb2⟩
            have R2 := Lib.hid (H1.out.under hb2)
            have D2 := Lib.hid (D1.out.under SZ.out hb2)
            clear hb2 C1 c6
            go_wp2_with fail
            go_ret
            exact G.out _ R2.out D2.out
          · cases d1
            · skip
              have G := Lib.hid (fun u k f => FE.out u 400 k f E4.out)
              clear E4 FE VA SM TR hn
              go_enter Tryz.func26, Tryz.ntmps26
              go_wp2_with fail
              refine BA.out.mono ?_
              rintro e w' ⟨rfl, rfl⟩
              clear BA
              go_wp2_with fail
              refine (C1.out _ H1.out).mono ?_
              rintro e w2 ⟨rfl, hb2⟩
              have R2 := Lib.hid (H1.out.under hb2)
              have D2 := Lib.hid (D1.out.under SZ.out hb2)
              clear hb2 C1 c6
              go_wp2_with fail
              refine (TK.out _).mono ?_
              rintro e w' ⟨rfl, rfl⟩
              clear TK
              go_wp2_with fail
              go_ret
              exact G.out _ R2.out D2.out
            · cases d2
              · skip
                have G := Lib.hid (fun u k f => FE.out u 400 k f E4.out)
                clear E4 FE SM TR hn
                go_enter Tryz.func26, Tryz.ntmps26
                go_wp2_with fail
                refine BA.out.mono ?_
                rintro e w' ⟨rfl, rfl⟩
                clear BA
                go_wp2_with fail
                refine (C1.out _ H1.out).mono ?_
                rintro e w2 ⟨rfl, hb2⟩
                have R2 := Lib.hid (H1.out.under hb2)
                have D2 := Lib.hid (D1.out.under SZ.out hb2)
                clear hb2 C1 c6
                go_wp2_with fail
                refine (TK.out _).mono ?_
                rintro e w' ⟨rfl, rfl⟩
                clear TK
                go_wp2_with fail
                refine (VA.out _).mono ?_
                rintro e w' ⟨rfl, rfl⟩
                clear VA
                go_wp2_with fail
                go_ret
                exact G.out _ R2.out D2.out
              · have E5 : Hid (R = (0, { s1 with q := { s1.q with headers := s1.q.headers ++ [(small m, trim v)] } })) := E4.out
                clear E4 FE
                go_enter Tryz.func26, Tryz.ntmps26
                go_wp2_with fail
                refine BA.out.mono ?_
                rintro e w' ⟨rfl, rfl⟩
                clear BA
                go_wp2_with fail
                refine (C1.out _ H1.out).mono ?_
                rintro e w2 ⟨rfl, hb2⟩
                have R2 := Lib.hid (H1.out.under hb2)
                have D2 := Lib.hid (D1.out.under SZ.out hb2)
                clear hb2 C1 c6
                go_wp2_with fail
                refine (TK.out _).mono ?_
                rintro e w' ⟨rfl, rfl⟩
                clear TK
                go_wp2_with fail
                refine (VA.out _).mono ?_
                rintro e w' ⟨rfl, rfl⟩
                clear VA
                have x6 : w2.cell? ⟨p, 6, none⟩ = some (.slice A n c) := by rw [← Q1.out]; exact R2.out.cell 6
                go_upto_region 12 with fail
                refine wp_region_noPanic ?_
                refine wp_region_held_drew (S := fun _ => True) (by kernel_rfl) trivial (fun hHeld => ?_)
                have K2 : Hid (Below w2.heap.size w2 w2.drew) := (Below.refl _ _).drew
                have RC0 := Lib.hid (R2.out.under K2.out)
                have DC0 := Lib.hid (D2.out.under SZ.out K2.out)
                clear K2
                refine take_ (i := 0) (v := ?_) 65 rfl rfl (by kernel_rfl) (by kernel_rfl) (by kernel_rfl) (fun _ _ _ h => h) (Or.inl ⟨by rfl, ?_⟩) (by assumption) ?_
                rotate_left
                · (intro wS hSw; (try dsimp only at hSw); go_simp; try with_reducible rfl)
                simp only [Act.put, List.setIfInBounds_toArray, List.set_cons_zero, List.set_cons_succ]
                refine take_ (i := 1) (v := ?_) 66 rfl rfl (by kernel_rfl) (by kernel_rfl) (by kernel_rfl) (fun _ _ _ h => h) (Or.inl ⟨by rfl, ?_⟩) (by assumption) ?_
                rotate_left
                · (intro wS hSw; (try dsimp only at hSw); go_simp; try with_reducible rfl)
                simp only [Act.put, List.setIfInBounds_toArray, List.set_cons_zero, List.set_cons_succ]
                refine take_ (i := 2) (v := ?_) 67 rfl rfl (by kernel_rfl) (by kernel_rfl) (by kernel_rfl) (fun _ _ _ h => h) (Or.inl ⟨by rfl, ?_⟩) (by assumption) ?_
                rotate_left
                · (intro wS hSw; (try dsimp only at hSw); go_simp; try with_reducible rfl)
                simp only [Act.put, List.setIfInBounds_toArray, List.set_cons_zero, List.set_cons_succ]
                refine take_ (i := 3) (v := ?_) 68 rfl rfl (by kernel_rfl) (by kernel_rfl) (by kernel_rfl) (fun _ _ _ h => h) (Or.inl ⟨by rfl, ?_⟩) (by assumption) ?_
                rotate_left
                · (intro wS hSw; (try dsimp only at hSw); go_simp; try with_reducible rfl)
                simp only [Act.put, List.setIfInBounds_toArray, List.set_cons_zero, List.set_cons_succ]
                refine take_ (i := 4) (v := ?_) 69 rfl rfl (by kernel_rfl) (by kernel_rfl) (by kernel_rfl) (fun _ _ _ h => h) (Or.inl ⟨by rfl, ?_⟩) (by assumption) ?_
                rotate_left
                · (intro wS hSw; (try dsimp only at hSw); go_simp; try with_reducible rfl)
                simp only [Act.put, List.setIfInBounds_toArray, List.set_cons_zero, List.set_cons_succ]
                refine take_ (i := 6) (v := ?_) 71 rfl rfl (by kernel_rfl) (by kernel_rfl) (by kernel_rfl) (fun _ _ _ h => h) (Or.inl ⟨by rfl, ?_⟩) (by assumption) ?_
                rotate_left
                · (intro wS hSw; (try dsimp only at hSw); go_simp; try with_reducible rfl)
                simp only [Act.put, List.setIfInBounds_toArray, List.set_cons_zero, List.set_cons_succ]
                refine take_ (i := 8) (v := ?_) 73 rfl rfl (by kernel_rfl) (by kernel_rfl) (by kernel_rfl) (fun _ _ _ h => h) (Or.inl ⟨by rfl, ?_⟩) (by assumption) ?_
                rotate_left
                · (intro wS hSw; (try dsimp only at hSw); go_simp; try with_reducible rfl)
                simp only [Act.put, List.setIfInBounds_toArray, List.set_cons_zero, List.set_cons_succ]
                refine two_ (i := 5) (j := 7) _ _ (by kernel_rfl) rfl rfl (fun K hK => ?_) (fun K hK => ?_)
                · go_simp
                  refine hK.out _ _ trivial (fun hHeld => ?_)
                  clear hK K
                  refine one_ (i := 7) _ (by kernel_rfl) rfl (fun K hK => ?_)
                  go_simp
                  refine (SM.out _).mono ?_
                  rintro e w7 ⟨rfl, hb7⟩
                  dsimp only
                  have RC1 := Lib.hid (RC0.out.under hb7)
                  have DC1 := Lib.hid (DC0.out.under SZ.out hb7)
                  have x7 : w7.cell? ⟨p, 6, none⟩ = some (.slice A n c) := by rw [← Q1.out]; exact RC1.out.cell 6
                  clear hb7
                  refine hK.out _ _ trivial (fun hHeld => ?_)
                  clear hK K
                  refine one_ (i := 9) _ (by kernel_rfl) rfl (fun K hK => ?_)
                  go_simp
                  refine (TR.out _).mono ?_
                  rintro e w9 ⟨rfl, hb9⟩
                  dsimp only
                  have RC2 := Lib.hid (RC1.out.under hb9)
                  have DC2 := Lib.hid (DC1.out.under SZ.out hb9)
                  have x9 : w9.cell? ⟨p, 6, none⟩ = some (.slice A n c) := by rw [← Q1.out]; exact RC2.out.cell 6
                  clear hb9
                  refine hK.out _ _ trivial (fun hHeld => ?_)
                  clear hK K
                  refine take_ (i := 10) (v := ?_) 75 rfl rfl (by kernel_rfl) (by kernel_rfl) (by kernel_rfl) (fun _ _ _ h => h) (Or.inl ⟨by rfl, ?_⟩) (by assumption) ?_
                  rotate_left
                  · (intro wS hSw; (try dsimp only at hSw); go_simp; try with_reducible rfl)
                  simp only [Act.put, List.setIfInBounds_toArray]
                  refine one_ (i := 11) _ (by kernel_rfl) rfl (fun K hK => ?_)
                  go_simp
                  have A10 : Hid (Below w9.heap.size w9 (w9.alloc (.cells #[.string sm, .string st] 38))) := (Below.refl _ _).alloc (Nat.le_refl _) _
                  have RC3 := Lib.hid (RC2.out.under A10.out)
                  have DC3 := Lib.hid (DC2.out.under SZ.out A10.out)
                  have x10 : (w9.alloc (.cells #[.string sm, .string st] 38)).cell? ⟨p, 6, none⟩ = some (.slice A n c) := by rw [← Q1.out]; exact RC3.out.cell 6
                  have HO : HAt (w9.alloc (.cells #[.string sm, .string st] 38)) (some ⟨w9.heap.size, 0, none⟩) [(small m, trim v)] := by
                    have := head_one w9 sm st 38 (0, 0) _ rfl
                    rw [HSM.out, HST.out] at this
                    exact this
                  clear A10
                  refine hK.out _ _ trivial (fun hHeld => ?_)
                  clear hK K
                  have RW := RC3.out.row
                  rw [Q1.out] at RW
                  refine one_ (i := 12) _ (by kernel_rfl) rfl (fun K hK => ?_)
                  refine ite_of (by kernel_rfl) ?_
                  refine oper_append_h (.tmp 70) (.tmp 76) rfl Bn (.slice A n c) s1.q.headers rfl RW ⟨w9.heap.size, 0, none⟩ 1 1 [(small m, trim v)] rfl rfl HO (by rw [Q1.out]; omega) RC3.out.sz ?_
                  intro v8 w8 hown8 hg8
                  obtain ⟨A8, c8, rfl, _⟩ := hown8.any
                  rw [← Q1.out] at hg8
                  have R11 := Lib.hid (RC3.out.push hown8 hg8)
                  have GR := RC3.out.grown hg8
                  have D11 : Hid (Fr Bn p w (w8.setCell ⟨p, 6, none⟩ (.slice A8 (s1.q.headers ++ [(small m, trim v)]).length c8))) := (DC3.out.trans GR.2.2.2).set_ 6 _
                  have x8 : w8.cell? ⟨p, 6, none⟩ = some (.slice A n c) := by rw [GR.1.cell 6, List.getElem?_toArray, ← Q1.out]; rfl
                  have y8 : w8.frozen? ⟨p, 6, none⟩ = false := GR.1.frozen 6
                  have hlen : (s1.q.headers ++ [(small m, trim v)]).length = s1.q.headers.length + 1 := by simp
                  rw [hlen] at R11 D11
                  clear hown8 hg8 GR HO RW x10 x9 x7 hlen
                  refine hK.out _ _ trivial (fun hHeld => ?_)
                  clear hK K
                  refine take_ (i := 13) (v := ?_) 78 rfl rfl (by kernel_rfl) (by kernel_rfl) (by kernel_rfl) (fun _ _ _ h => h) (Or.inl ⟨by rfl, ?_⟩) (by assumption) ?_
                  rotate_left
                  · (intro wS hSw; (try dsimp only at hSw); go_simp; try with_reducible rfl)
                  simp only [Act.put, List.setIfInBounds_toArray]
                  refine take_ (i := 14) (v := ?_) 79 rfl rfl (by kernel_rfl) (by kernel_rfl) (by kernel_rfl) (fun _ _ _ h => h) (Or.inl ⟨by rfl, ?_⟩) (by assumption) ?_
                  rotate_left
                  · (intro wS hSw; (try dsimp only at hSw); go_simp; try with_reducible rfl)
                  simp only [Act.put]
                  refine take_ (i := 15) (v := ?_) 80 rfl rfl (by kernel_rfl) (by kernel_rfl) (by kernel_rfl) (fun _ _ _ h => h) (Or.inl ⟨by rfl, ?_⟩) (by assumption) ?_
                  rotate_left
                  · (intro wS hSw; (try dsimp only at hSw); go_simp; try with_reducible rfl)
                  simp only [Act.put]
                  refine one_ (i := 16) _ (by kernel_rfl) rfl (fun K hK => ?_)
                  go_simp
                  refine hK.out _ _ trivial (fun hHeld => ?_)
                  clear hK K
                  refine wpAnyH_done (by kernel_rfl) ?_ _
                  refine NoPanic.normal ?_
                  have FIN : Hid (Took w0 Bn w p ty z R (.returned (.int .i64 0)) (w8.setCell ⟨p, 6, none⟩ (.slice A8 (s1.q.headers.length + 1) c8))) := by show Took _ _ _ _ _ _ _ _ _; rw [E5.out]; exact ⟨rfl, ⟨A8, c8, R11.out⟩, D11.out⟩
                  go_wp2_with fail
                  go_ret
                  exact FIN.out
                · go_simp
                  refine (SM.out _).mono ?_
                  rintro e w7 ⟨rfl, hb7⟩
                  dsimp only
                  have RC1 := Lib.hid (RC0.out.under hb7)
                  have DC1 := Lib.hid (DC0.out.under SZ.out hb7)
                  have x7 : w7.cell? ⟨p, 6, none⟩ = some (.slice A n c) := by rw [← Q1.out]; exact RC1.out.cell 6
                  clear hb7
                  refine hK.out _ _ trivial (fun hHeld => ?_)
                  clear hK K
                  refine two_ (i := 5) (j := 9) _ _ (by kernel_rfl) rfl rfl (fun K hK => ?_) (fun K hK => ?_)
                  · go_simp
                    refine hK.out _ _ trivial (fun hHeld => ?_)
                    clear hK K
                    refine one_ (i := 9) _ (by kernel_rfl) rfl (fun K hK => ?_)
                    go_simp
                    refine (TR.out _).mono ?_
                    rintro e w9 ⟨rfl, hb9⟩
                    dsimp only
                    have RC2 := Lib.hid (RC1.out.under hb9)
                    have DC2 := Lib.hid (DC1.out.under SZ.out hb9)
                    have x9 : w9.cell? ⟨p, 6, none⟩ = some (.slice A n c) := by rw [← Q1.out]; exact RC2.out.cell 6
                    clear hb9
                    refine hK.out _ _ trivial (fun hHeld => ?_)
                    clear hK K
                    refine take_ (i := 10) (v := ?_) 75 rfl rfl (by kernel_rfl) (by kernel_rfl) (by kernel_rfl) (fun _ _ _ h => h) (Or.inl ⟨by rfl, ?_⟩) (by assumption) ?_
                    rotate_left
                    · (intro wS hSw; (try dsimp only at hSw); go_simp; try with_reducible rfl)
                    simp only [Act.put, List.setIfInBounds_toArray]
                    refine one_ (i := 11) _ (by kernel_rfl) rfl (fun K hK => ?_)
                    go_simp
                    have A10 : Hid (Below w9.heap.size w9 (w9.alloc (.cells #[.string sm, .string st] 38))) := (Below.refl _ _).alloc (Nat.le_refl _) _
                    have RC3 := Lib.hid (RC2.out.under A10.out)
                    have DC3 := Lib.hid (DC2.out.under SZ.out A10.out)
                    have x10 : (w9.alloc (.cells #[.string sm, .string st] 38)).cell? ⟨p, 6, none⟩ = some (.slice A n c) := by rw [← Q1.out]; exact RC3.out.cell 6
                    have HO : HAt (w9.alloc (.cells #[.string sm, .string st] 38)) (some ⟨w9.heap.size, 0, none⟩) [(small m, trim v)] := by
                      have := head_one w9 sm st 38 (0, 0) _ rfl
                      rw [HSM.out, HST.out] at this
                      exact this
                    clear A10
                    refine hK.out _ _ trivial (fun hHeld => ?_)
                    clear hK K
                    have RW := RC3.out.row
                    rw [Q1.out] at RW
                    refine one_ (i := 12) _ (by kernel_rfl) rfl (fun K hK => ?_)
                    refine ite_of (by kernel_rfl) ?_
                    refine oper_append_h (.tmp 70) (.tmp 76) rfl Bn (.slice A n c) s1.q.headers rfl RW ⟨w9.heap.size, 0, none⟩ 1 1 [(small m, trim v)] rfl rfl HO (by rw [Q1.out]; omega) RC3.out.sz ?_
                    intro v8 w8 hown8 hg8
                    obtain ⟨A8, c8, rfl, _⟩ := hown8.any
                    rw [← Q1.out] at hg8
                    have R11 := Lib.hid (RC3.out.push hown8 hg8)
                    have GR := RC3.out.grown hg8
                    have D11 : Hid (Fr Bn p w (w8.setCell ⟨p, 6, none⟩ (.slice A8 (s1.q.headers ++ [(small m, trim v)]).length c8))) := (DC3.out.trans GR.2.2.2).set_ 6 _
                    have x8 : w8.cell? ⟨p, 6, none⟩ = some (.slice A n c) := by rw [GR.1.cell 6, List.getElem?_toArray, ← Q1.out]; rfl
                    have y8 : w8.frozen? ⟨p, 6, none⟩ = false := GR.1.frozen 6
                    have hlen : (s1.q.headers ++ [(small m, trim v)]).length = s1.q.headers.length + 1 := by simp
                    rw [hlen] at R11 D11
                    clear hown8 hg8 GR HO RW x10 x9 x7 hlen
                    refine hK.out _ _ trivial (fun hHeld => ?_)
                    clear hK K
                    refine take_ (i := 13) (v := ?_) 78 rfl rfl (by kernel_rfl) (by kernel_rfl) (by kernel_rfl) (fun _ _ _ h => h) (Or.inl ⟨by rfl, ?_⟩) (by assumption) ?_
                    rotate_left
                    · (intro wS hSw; (try dsimp only at hSw); go_simp; try with_reducible rfl)
                    simp only [Act.put, List.setIfInBounds_toArray]
                    refine take_ (i := 14) (v := ?_) 79 rfl rfl (by kernel_rfl) (by kernel_rfl) (by kernel_rfl) (fun _ _ _ h => h) (Or.inl ⟨by rfl, ?_⟩) (by assumption) ?_
                    rotate_left
                    · (intro wS hSw; (try dsimp only at hSw); go_simp; try with_reducible rfl)
                    simp only [Act.put]
                    refine take_ (i := 15) (v := ?_) 80 rfl rfl (by kernel_rfl) (by kernel_rfl) (by kernel_rfl) (fun _ _ _ h => h) (Or.inl ⟨by rfl, ?_⟩) (by assumption) ?_
                    rotate_left
                    · (intro wS hSw; (try dsimp only at hSw); go_simp; try with_reducible rfl)
                    simp only [Act.put]
                    refine one_ (i := 16) _ (by kernel_rfl) rfl (fun K hK => ?_)
                    go_simp
                    refine hK.out _ _ trivial (fun hHeld => ?_)
                    clear hK K
                    refine wpAnyH_done (by kernel_rfl) ?_ _
                    refine NoPanic.normal ?_
                    have FIN : Hid (Took w0 Bn w p ty z R (.returned (.int .i64 0)) (w8.setCell ⟨p, 6, none⟩ (.slice A8 (s1.q.headers.length + 1) c8))) := by show Took _ _ _ _ _ _ _ _ _; rw [E5.out]; exact ⟨rfl, ⟨A8, c8, R11.out⟩, D11.out⟩
                    go_wp2_with fail
                    go_ret
                    exact FIN.out
                  · go_simp
                    refine (TR.out _).mono ?_
                    rintro e w9 ⟨rfl, hb9⟩
                    dsimp only
                    have RC2 := Lib.hid (RC1.out.under hb9)
                    have DC2 := Lib.hid (DC1.out.under SZ.out hb9)
                    have x9 : w9.cell? ⟨p, 6, none⟩ = some (.slice A n c) := by rw [← Q1.out]; exact RC2.out.cell 6
                    clear hb9
                    refine hK.out _ _ trivial (fun hHeld => ?_)
                    clear hK K
                    refine take_ (i := 10) (v := ?_) 75 rfl rfl (by kernel_rfl) (by kernel_rfl) (by kernel_rfl) (fun _ _ _ h => h) (Or.inl ⟨by rfl, ?_⟩) (by assumption) ?_
                    rotate_left
                    · (intro wS hSw; (try dsimp only at hSw); go_simp; try with_reducible rfl)
                    simp only [Act.put, List.setIfInBounds_toArray]
                    refine two_ (i := 5) (j := 11) _ _ (by kernel_rfl) rfl rfl (fun K hK => ?_) (fun K hK => ?_)
                    · go_simp
                      refine hK.out _ _ trivial (fun hHeld => ?_)
                      clear hK K
                      refine one_ (i := 11) _ (by kernel_rfl) rfl (fun K hK => ?_)
                      go_simp
                      have A10 : Hid (Below w9.heap.size w9 (w9.alloc (.cells #[.string sm, .string st] 38))) := (Below.refl _ _).alloc (Nat.le_refl _) _
                      have RC3 := Lib.hid (RC2.out.under A10.out)
                      have DC3 := Lib.hid (DC2.out.under SZ.out A10.out)
                      have x10 : (w9.alloc (.cells #[.string sm, .string st] 38)).cell? ⟨p, 6, none⟩ = some (.slice A n c) := by rw [← Q1.out]; exact RC3.out.cell 6
                      have HO : HAt (w9.alloc (.cells #[.string sm, .string st] 38)) (some ⟨w9.heap.size, 0, none⟩) [(small m, trim v)] := by
                        have := head_one w9 sm st 38 (0, 0) _ rfl
                        rw [HSM.out, HST.out] at this
                        exact this
                      clear A10
                      refine hK.out _ _ trivial (fun hHeld => ?_)
                      clear hK K
                      have RW := RC3.out.row
                      rw [Q1.out] at RW
                      refine one_ (i := 12) _ (by kernel_rfl) rfl (fun K hK => ?_)
                      refine ite_of (by kernel_rfl) ?_
                      refine oper_append_h (.tmp 70) (.tmp 76) rfl Bn (.slice A n c) s1.q.headers rfl RW ⟨w9.heap.size, 0, none⟩ 1 1 [(small m, trim v)] rfl rfl HO (by rw [Q1.out]; omega) RC3.out.sz ?_
                      intro v8 w8 hown8 hg8
                      obtain ⟨A8, c8, rfl, _⟩ := hown8.any
                      rw [← Q1.out] at hg8
                      have R11 := Lib.hid (RC3.out.push hown8 hg8)
                      have GR := RC3.out.grown hg8
                      have D11 : Hid (Fr Bn p w (w8.setCell ⟨p, 6, none⟩ (.slice A8 (s1.q.headers ++ [(small m, trim v)]).length c8))) := (DC3.out.trans GR.2.2.2).set_ 6 _
                      have x8 : w8.cell? ⟨p, 6, none⟩ = some (.slice A n c) := by rw [GR.1.cell 6, List.getElem?_toArray, ← Q1.out]; rfl
                      have y8 : w8.frozen? ⟨p, 6, none⟩ = false := GR.1.frozen 6
                      have hlen : (s1.q.headers ++ [(small m, trim v)]).length = s1.q.headers.length + 1 := by simp
                      rw [hlen] at R11 D11
                      clear hown8 hg8 GR HO RW x10 x9 x7 hlen
                      refine hK.out _ _ trivial (fun hHeld => ?_)
                      clear hK K
                      refine take_ (i := 13) (v := ?_) 78 rfl rfl (by kernel_rfl) (by kernel_rfl) (by kernel_rfl) (fun _ _ _ h => h) (Or.inl ⟨by rfl, ?_⟩) (by assumption) ?_
                      rotate_left
                      · (intro wS hSw; (try dsimp only at hSw); go_simp; try with_reducible rfl)
                      simp only [Act.put, List.setIfInBounds_toArray]
                      refine take_ (i := 14) (v := ?_) 79 rfl rfl (by kernel_rfl) (by kernel_rfl) (by kernel_rfl) (fun _ _ _ h => h) (Or.inl ⟨by rfl, ?_⟩) (by assumption) ?_
                      rotate_left
                      · (intro wS hSw; (try dsimp only at hSw); go_simp; try with_reducible rfl)
                      simp only [Act.put]
                      refine take_ (i := 15) (v := ?_) 80 rfl rfl (by kernel_rfl) (by kernel_rfl) (by kernel_rfl) (fun _ _ _ h => h) (Or.inl ⟨by rfl, ?_⟩) (by assumption) ?_
                      rotate_left
                      · (intro wS hSw; (try dsimp only at hSw); go_simp; try with_reducible rfl)
                      simp only [Act.put]
                      refine one_ (i := 16) _ (by kernel_rfl) rfl (fun K hK => ?_)
                      go_simp
                      refine hK.out _ _ trivial (fun hHeld => ?_)
                      clear hK K
                      refine wpAnyH_done (by kernel_rfl) ?_ _
                      refine NoPanic.normal ?_
                      have FIN : Hid (Took w0 Bn w p ty z R (.returned (.int .i64 0)) (w8.setCell ⟨p, 6, none⟩ (.slice A8 (s1.q.headers.length + 1) c8))) := by show Took _ _ _ _ _ _ _ _ _; rw [E5.out]; exact ⟨rfl, ⟨A8, c8, R11.out⟩, D11.out⟩
                      go_wp2_with fail
                      go_ret
                      exact FIN.out
                    · go_simp
                      have A10 : Hid (Below w9.heap.size w9 (w9.alloc (.cells #[.string sm, .string st] 38))) := (Below.refl _ _).alloc (Nat.le_refl _) _
                      have RC3 := Lib.hid (RC2.out.under A10.out)
                      have DC3 := Lib.hid (DC2.out.under SZ.out A10.out)
                      have x10 : (w9.alloc (.cells #[.string sm, .string st] 38)).cell? ⟨p, 6, none⟩ = some (.slice A n c) := by rw [← Q1.out]; exact RC3.out.cell 6
                      have HO : HAt (w9.alloc (.cells #[.string sm, .string st] 38)) (some ⟨w9.heap.size, 0, none⟩) [(small m, trim v)] := by
                        have := head_one w9 sm st 38 (0, 0) _ rfl
                        rw [HSM.out, HST.out] at this
                        exact this
                      clear A10
                      refine hK.out _ _ trivial (fun hHeld => ?_)
                      clear hK K
                      refine one_ (i := 5) _ (by kernel_rfl) rfl (fun K hK => ?_)
                      go_simp
                      refine hK.out _ _ trivial (fun hHeld => ?_)
                      clear hK K
                      have RW := RC3.out.row
                      rw [Q1.out] at RW
                      refine one_ (i := 12) _ (by kernel_rfl) rfl (fun K hK => ?_)
                      refine ite_of (by kernel_rfl) ?_
                      refine oper_append_h (.tmp 70) (.tmp 76) rfl Bn (.slice A n c) s1.q.headers rfl RW ⟨w9.heap.size, 0, none⟩ 1 1 [(small m, trim v)] rfl rfl HO (by rw [Q1.out]; omega) RC3.out.sz ?_
                      intro v8 w8 hown8 hg8
                      obtain ⟨A8, c8, rfl, _⟩ := hown8.any
                      rw [← Q1.out] at hg8
                      have R11 := Lib.hid (RC3.out.push hown8 hg8)
                      have GR := RC3.out.grown hg8
                      have D11 : Hid (Fr Bn p w (w8.setCell ⟨p, 6, none⟩ (.slice A8 (s1.q.headers ++ [(small m, trim v)]).length c8))) := (DC3.out.trans GR.2.2.2).set_ 6 _
                      have x8 : w8.cell? ⟨p, 6, none⟩ = some (.slice A n c) := by rw [GR.1.cell 6, List.getElem?_toArray, ← Q1.out]; rfl
                      have y8 : w8.frozen? ⟨p, 6, none⟩ = false := GR.1.frozen 6
                      have hlen : (s1.q.headers ++ [(small m, trim v)]).length = s1.q.headers.length + 1 := by simp
                      rw [hlen] at R11 D11
                      clear hown8 hg8 GR HO RW x10 x9 x7 hlen
                      refine hK.out _ _ trivial (fun hHeld => ?_)
                      clear hK K
                      refine take_ (i := 13) (v := ?_) 78 rfl rfl (by kernel_rfl) (by kernel_rfl) (by kernel_rfl) (fun _ _ _ h => h) (Or.inl ⟨by rfl, ?_⟩) (by assumption) ?_
                      rotate_left
                      · (intro wS hSw; (try dsimp only at hSw); go_simp; try with_reducible rfl)
                      simp only [Act.put, List.setIfInBounds_toArray]
                      refine take_ (i := 14) (v := ?_) 79 rfl rfl (by kernel_rfl) (by kernel_rfl) (by kernel_rfl) (fun _ _ _ h => h) (Or.inl ⟨by rfl, ?_⟩) (by assumption) ?_
                      rotate_left
                      · (intro wS hSw; (try dsimp only at hSw); go_simp; try with_reducible rfl)
                      simp only [Act.put]
                      refine take_ (i := 15) (v := ?_) 80 rfl rfl (by kernel_rfl) (by kernel_rfl) (by kernel_rfl) (fun _ _ _ h => h) (Or.inl ⟨by rfl, ?_⟩) (by assumption) ?_
                      rotate_left
                      · (intro wS hSw; (try dsimp only at hSw); go_simp; try with_reducible rfl)
                      simp only [Act.put]
                      refine one_ (i := 16) _ (by kernel_rfl) rfl (fun K hK => ?_)
                      go_simp
                      refine hK.out _ _ trivial (fun hHeld => ?_)
                      clear hK K
                      refine wpAnyH_done (by kernel_rfl) ?_ _
                      refine NoPanic.normal ?_
                      have FIN : Hid (Took w0 Bn w p ty z R (.returned (.int .i64 0)) (w8.setCell ⟨p, 6, none⟩ (.slice A8 (s1.q.headers.length + 1) c8))) := by show Took _ _ _ _ _ _ _ _ _; rw [E5.out]; exact ⟨rfl, ⟨A8, c8, R11.out⟩, D11.out⟩
                      go_wp2_with fail
                      go_ret
                      exact FIN.out
  · have f0 : (t == 0) = false := by rw [beq_eq_false_iff_ne]; exact ht
    have G := Lib.hid (F0.out (by rw [E.out, if_pos ht]))
    clear E F0 FE EH C1 TK VA SM TR H1 D1 c6 c2 y2
    go_enter Tryz.func26, Tryz.ntmps26
    go_wp2_with fail
    refine BA.out.mono ?_
    rintro e w' ⟨rfl, rfl⟩
    clear BA
    go_wp2_with fail
    go_ret
    exact G.out
end
end Go.Proofs.YtnodhbgkoedalaaGreatDoor

namespace Go.Proofs.YtnodhbgkoedalaaGreatDoor
namespace Wire
open Go.Lib
open Reply (tokn val trim small)

theorem dwl (P : UInt8 → Bool) : ∀ l : B, (l.dropWhile P).length ≤ l.length
  | [] => Nat.le_refl _
  | x :: l => by
    rw [List.dropWhile_cons]
    split
    · have := dwl P l; simp; omega
    · exact Nat.le_refl _
theorem trim_len (l : B) : (trim l).length ≤ l.length := by
  unfold trim trimS trimLeftS trimRightS
  refine Nat.le_trans (dwl _ _) ?_
  rw [List.length_reverse]
  refine Nat.le_trans (dwl _ _) ?_
  rw [List.length_reverse]
  exact Nat.le_refl _
/-- What the headers' values are no longer than. -/
def Fit (s : St) : Prop := ∀ x ∈ s.q.headers, x.2.length ≤ 1048576
/-- What a step does to the headers: nothing, or one more. -/
theorem take_heads (s : St) (p : B) : (take s p).2.q.headers = s.q.headers ∨ ∃ x, (take s p).2.q.headers = s.q.headers ++ [x] ∧ x.2.length ≤ p.length := by
  have e0 : (takeFirst s p).2.q.headers = s.q.headers := by
    unfold takeFirst
    dsimp only
    repeat' split
    all_goals rfl
  have el : ∀ x : St, ∀ ls, (expectLength x ls).2.q.headers = x.q.headers := fun x ls => by
    unfold expectLength
    repeat' split
    all_goals rfl
  have eh : (endHead s).2.q.headers = s.q.headers := by
    unfold endHead
    dsimp only
    repeat' split
    all_goals first | rfl | exact el _ _
  have e1 : (takeHeader s p).2.q.headers = s.q.headers ∨ ∃ x, (takeHeader s p).2.q.headers = s.q.headers ++ [x] ∧ x.2.length ≤ p.length := by
    unfold takeHeader
    dsimp only
    split
    · exact .inl rfl
    split
    · exact .inl eh
    split
    · exact .inl rfl
    split
    · exact .inl rfl
    · refine .inr ⟨_, rfl, ?_⟩
      have a := trim_len (Lib.cut (bare p 431).1 [58]).2.1
      have b := cut2_len (bare p 431).1 [58]
      have c := bare_len p 431
      exact Nat.le_trans a (Nat.le_trans b c)
  have e3 : (takeChunkLine s p).2.q.headers = s.q.headers := by
    rw [chunkLine_of]
    split
    · rfl
    · unfold ckOf
      repeat' split
      all_goals rfl
  have e7 : (takeTrailer s p).2.q.headers = s.q.headers := by
    unfold takeTrailer
    repeat' split
    all_goals rfl
  have ee : ∀ w n, (expect s p w n).2.q.headers = s.q.headers := fun w n => by
    unfold expect
    split <;> rfl
  unfold take
  repeat' split
  all_goals first | exact .inl e0 | exact e1 | exact .inl rfl | exact .inl e3 | exact .inl (ee _ _) | exact .inl e7
theorem Fit.take {s : St} (h : Fit s) {p : B} (hp : p.length ≤ 1048576) : Fit (take s p).2 := by
  intro x hx
  rcases take_heads s p with e | ⟨y, e, hy⟩
  · rw [e] at hx; exact h x hx
  · rw [e] at hx
    rcases List.mem_append.1 hx with hx | hx
    · exact h x hx
    · rw [List.mem_singleton.1 hx]; exact Nat.le_trans hy hp
theorem size_small {s : St} (h : Ok s) (l : B) : size l (wants s) ≤ 8192 := by
  unfold wants
  split
  · rename_i e
    have a := h.fit e
    show s.size ≤ _
    omega
  · split
    · show 1 ≤ _; omega
    · have := lineSize_le l; show lineSize l ≤ _; omega
/-- How a run goes on. -/
theorem runs_inv {s s' : St} {l : B} {t : Nat} {c : Int} (h : Runs reader s l t c s') :
    (s.step = 8 ∧ t = 0 ∧ c = 0 ∧ s' = s) ∨ (s.step ≠ 8 ∧ l.length < size l (wants s) ∧ t = 0 ∧ c = -1 ∧ s' = s) ∨
    (s.step ≠ 8 ∧ size l (wants s) ≤ l.length ∧ (take s (l.take (size l (wants s)))).1 ≠ 0 ∧ t = size l (wants s) ∧ c = (take s (l.take (size l (wants s)))).1 ∧ s' = (take s (l.take (size l (wants s)))).2) ∨
    (s.step ≠ 8 ∧ size l (wants s) ≤ l.length ∧ (take s (l.take (size l (wants s)))).1 = 0 ∧ ∃ t1, t = size l (wants s) + t1 ∧ Runs reader (take s (l.take (size l (wants s)))).2 (l.drop (size l (wants s))) t1 c s') := by
  have no : reader.whole s = false → s.step ≠ 8 := fun h => of_decide_eq_false h
  cases h with
  | whole h => exact .inl ⟨of_decide_eq_true h, rfl, rfl, rfl⟩
  | more h hk => exact .inr (.inl ⟨no h, hk, rfl, rfl, rfl⟩)
  | stop h hk hr hc =>
    have e : take s (l.take (size l (wants s))) = (c, s') := hr
    exact .inr (.inr (.inl ⟨no h, hk, by rw [e]; exact hc, rfl, by rw [e], by rw [e]⟩))
  | step h hk hr hn =>
    rename_i s1 t1
    have e : take s (l.take (size l (wants s))) = (0, s1) := hr
    refine .inr (.inr (.inr ⟨no h, hk, by rw [e], t1, rfl, ?_⟩))
    rw [e]
    exact hn
theorem runs_pre {s s' : St} {l : B} {t : Nat} {c : Int} (h : Runs reader s l t c s') : s.q.headers <+: s'.q.headers := by
  have tk : ∀ (x : St) (p : B), x.q.headers <+: (take x p).2.q.headers := fun x p => by
    rcases take_heads x p with e | ⟨y, e, _⟩
    · rw [e]; exact List.prefix_refl _
    · rw [e]; exact List.prefix_append _ _
  induction h with
  | whole _ => exact List.prefix_refl _
  | more _ _ => exact List.prefix_refl _
  | @stop s s' l c _ hk hr _ =>
    have := tk s (l.take (size l (reader.wants s)))
    rw [show take s (l.take (size l (reader.wants s))) = (c, s') from hr] at this
    exact this
  | @step s s1 s' l t c _ hk hr _ ih =>
    have := tk s (l.take (size l (reader.wants s)))
    rw [show take s (l.take (size l (reader.wants s))) = (0, s1) from hr] at this
    exact this.trans ih
end Wire
end Go.Proofs.YtnodhbgkoedalaaGreatDoor

namespace Go.Proofs.YtnodhbgkoedalaaGreatDoor
open Go.RowKit Reply

section
variable {w0 w : World} {Bn p : Nat} {ty : TypeId} {z : List Value} {s : Wire.St} {A : Option Addr} {c : Nat}
set_option maxRecDepth 100000 in
set_option maxHeartbeats 8000000 in
theorem take_any (h : RdS w0 Bn w p ty z s A c) (l : Reply.B) (hl : l.length ≤ 1048576) (ok : Wire.Ok s) (h8 : s.step ≠ 8) (ft : Wire.Fit s) (CL : ClosesC s.q.headers) :
    Calls Tryz.prog 21 #[.pointer (some ⟨p, 0, none⟩), .string (S l)] w fun e w' => Took w0 Bn w p ty z (Wire.take s l) e w' := by
  have c0 : w.cell? ⟨p, 0, none⟩ = some (.int .i64 (s.step : Int)) := h.cell 0
  have hv : ∀ x ∈ s.q.headers, x.2.length ≤ 1073741824 := fun x hx => by have := ft x hx; omega
  have T0 := Lib.hid (takeFirst_any h l (by omega))
  have T1 := Lib.hid (takeHeader_any h l hl ok.head ok.cnt hv CL)
  have T2 := Lib.hid (takeBody_any h l 8 (by have := ok.body; omega) (by omega))
  have T3 := Lib.hid (takeChunkLine_any h l (by omega) ok.body)
  have T4 := Lib.hid (takeBody_any h l 5 (by have := ok.body; omega) (by omega))
  have T5 := Lib.hid (expect_any h l [13] 6)
  have T6 := Lib.hid (expect_any h l [10] 3)
  have T7 := Lib.hid (takeTrailer_any h l (by omega) ok.tr)
  rw [show S [13] = ⟨#[13]⟩ from rfl] at T5
  rw [show S [10] = ⟨#[10]⟩ from rfl] at T6
  have h7 := ok.step
  have E : Hid (Wire.take s l = if s.step = 0 then Wire.takeFirst s l else if s.step = 1 then Wire.takeHeader s l else if s.step = 2 then Wire.takeBody s l 8 else if s.step = 3 then Wire.takeChunkLine s l else if s.step = 4 then Wire.takeBody s l 5 else if s.step = 5 then Wire.expect s l [13] 6 else if s.step = 6 then Wire.expect s l [10] 3 else Wire.takeTrailer s l) := rfl
  obtain ⟨R, hR⟩ : ∃ x, x = Wire.take s l := ⟨_, rfl⟩
  rw [← hR] at E ⊢
  obtain ⟨k, hk⟩ : ∃ k, k = s.step := ⟨_, rfl⟩
  obtain ⟨ls, hls⟩ : ∃ x, x = S l := ⟨_, rfl⟩
  rw [← hls] at T0
  rw [← hls] at T1
  rw [← hls] at T2
  rw [← hls] at T3
  rw [← hls] at T4
  rw [← hls] at T5
  rw [← hls] at T6
  rw [← hls] at T7
  rw [← hk] at c0 E h8 h7
  rw [← hls]
  clear h hR hk hls hl ok ft CL hv
  rcases (show k = 0 ∨ k = 1 ∨ k = 2 ∨ k = 3 ∨ k = 4 ∨ k = 5 ∨ k = 6 ∨ k = 7 by omega) with rfl | rfl | rfl | rfl | rfl | rfl | rfl | rfl
  · have E2 : Hid (R = Wire.takeFirst s l) := E.out
    rw [E2.out]
    obtain ⟨R2, hR2⟩ : ∃ x, x = Wire.takeFirst s l := ⟨_, rfl⟩
    rw [← hR2] at T0 ⊢
    clear E E2 hR2 h8 h7 T1 T2 T3 T4 T5 T6 T7
    go_enter Tryz.func21, Tryz.ntmps21
    go_wp2_with fail
    refine T0.out.mono ?_
    rintro e w1 ⟨rfl, t1, t2⟩
    have FIN : Hid (Took w0 Bn w p ty z R2 (.returned (.int .i64 R2.1)) w1) := ⟨rfl, t1, t2⟩
    clear T0 t1 t2
    go_wp2_with fail
    go_ret
    exact FIN.out
  · have E2 : Hid (R = Wire.takeHeader s l) := E.out
    rw [E2.out]
    obtain ⟨R2, hR2⟩ : ∃ x, x = Wire.takeHeader s l := ⟨_, rfl⟩
    rw [← hR2] at T1 ⊢
    clear E E2 hR2 h8 h7 T0 T2 T3 T4 T5 T6 T7
    go_enter Tryz.func21, Tryz.ntmps21
    go_wp2_with fail
    refine T1.out.mono ?_
    rintro e w1 ⟨rfl, t1, t2⟩
    have FIN : Hid (Took w0 Bn w p ty z R2 (.returned (.int .i64 R2.1)) w1) := ⟨rfl, t1, t2⟩
    clear T1 t1 t2
    go_wp2_with fail
    go_ret
    exact FIN.out
  · have E2 : Hid (R = Wire.takeBody s l 8) := E.out
    rw [E2.out]
    obtain ⟨R2, hR2⟩ : ∃ x, x = Wire.takeBody s l 8 := ⟨_, rfl⟩
    rw [← hR2] at T2 ⊢
    clear E E2 hR2 h8 h7 T0 T1 T3 T4 T5 T6 T7
    go_enter Tryz.func21, Tryz.ntmps21
    go_wp2_with fail
    refine T2.out.mono ?_
    rintro e w1 ⟨rfl, t1, t2⟩
    have FIN : Hid (Took w0 Bn w p ty z R2 (.returned (.int .i64 R2.1)) w1) := ⟨rfl, t1, t2⟩
    clear T2 t1 t2
    go_wp2_with fail
    go_ret
    exact FIN.out
  · have E2 : Hid (R = Wire.takeChunkLine s l) := E.out
    rw [E2.out]
    obtain ⟨R2, hR2⟩ : ∃ x, x = Wire.takeChunkLine s l := ⟨_, rfl⟩
    rw [← hR2] at T3 ⊢
    clear E E2 hR2 h8 h7 T0 T1 T2 T4 T5 T6 T7
    go_enter Tryz.func21, Tryz.ntmps21
    go_wp2_with fail
    refine T3.out.mono ?_
    rintro e w1 ⟨rfl, t1, t2⟩
    have FIN : Hid (Took w0 Bn w p ty z R2 (.returned (.int .i64 R2.1)) w1) := ⟨rfl, t1, t2⟩
    clear T3 t1 t2
    go_wp2_with fail
    go_ret
    exact FIN.out
  · have E2 : Hid (R = Wire.takeBody s l 5) := E.out
    rw [E2.out]
    obtain ⟨R2, hR2⟩ : ∃ x, x = Wire.takeBody s l 5 := ⟨_, rfl⟩
    rw [← hR2] at T4 ⊢
    clear E E2 hR2 h8 h7 T0 T1 T2 T3 T5 T6 T7
    go_enter Tryz.func21, Tryz.ntmps21
    go_wp2_with fail
    refine T4.out.mono ?_
    rintro e w1 ⟨rfl, t1, t2⟩
    have FIN : Hid (Took w0 Bn w p ty z R2 (.returned (.int .i64 R2.1)) w1) := ⟨rfl, t1, t2⟩
    clear T4 t1 t2
    go_wp2_with fail
    go_ret
    exact FIN.out
  · have E2 : Hid (R = Wire.expect s l [13] 6) := E.out
    rw [E2.out]
    obtain ⟨R2, hR2⟩ : ∃ x, x = Wire.expect s l [13] 6 := ⟨_, rfl⟩
    rw [← hR2] at T5 ⊢
    clear E E2 hR2 h8 h7 T0 T1 T2 T3 T4 T6 T7
    go_enter Tryz.func21, Tryz.ntmps21
    go_wp2_with fail
    refine T5.out.mono ?_
    rintro e w1 ⟨rfl, t1, t2⟩
    have FIN : Hid (Took w0 Bn w p ty z R2 (.returned (.int .i64 R2.1)) w1) := ⟨rfl, t1, t2⟩
    clear T5 t1 t2
    go_wp2_with fail
    go_ret
    exact FIN.out
  · have E2 : Hid (R = Wire.expect s l [10] 3) := E.out
    rw [E2.out]
    obtain ⟨R2, hR2⟩ : ∃ x, x = Wire.expect s l [10] 3 := ⟨_, rfl⟩
    rw [← hR2] at T6 ⊢
    clear E E2 hR2 h8 h7 T0 T1 T2 T3 T4 T5 T7
    go_enter Tryz.func21, Tryz.ntmps21
    go_wp2_with fail
    refine T6.out.mono ?_
    rintro e w1 ⟨rfl, t1, t2⟩
    have FIN : Hid (Took w0 Bn w p ty z R2 (.returned (.int .i64 R2.1)) w1) := ⟨rfl, t1, t2⟩
    clear T6 t1 t2
    go_wp2_with fail
    go_ret
    exact FIN.out
  · have E2 : Hid (R = Wire.takeTrailer s l) := E.out
    rw [E2.out]
    obtain ⟨R2, hR2⟩ : ∃ x, x = Wire.takeTrailer s l := ⟨_, rfl⟩
    rw [← hR2] at T7 ⊢
    clear E E2 hR2 h8 h7 T0 T1 T2 T3 T4 T5 T6
    go_enter Tryz.func21, Tryz.ntmps21
    go_wp2_with fail
    refine T7.out.mono ?_
    rintro e w1 ⟨rfl, t1, t2⟩
    have FIN : Hid (Took w0 Bn w p ty z R2 (.returned (.int .i64 R2.1)) w1) := ⟨rfl, t1, t2⟩
    clear T7 t1 t2
    go_wp2_with fail
    go_ret
    exact FIN.out
end
end Go.Proofs.YtnodhbgkoedalaaGreatDoor

namespace Go.Proofs.YtnodhbgkoedalaaGreatDoor
open Go.RowKit Reply

section
variable {w0 w : World} {Bn p : Nat} {ty : TypeId} {z : List Value} {s : Wire.St} {A : Option Addr} {c : Nat}
/-- 0 where the reader in block p is done. -/
def stepM (w : World) (p : Nat) : Nat := match w.cell? ⟨p, 0, none⟩ with
  | some (.int _ i) => if i = 8 then 0 else 1
  | _ => 1
theorem stepM_is (h : RdS w0 Bn w p ty z s A c) : stepM w p = if s.step = 8 then 0 else 1 := by
  have c0 : w.cell? ⟨p, 0, none⟩ = some (.int .i64 (s.step : Int)) := h.cell 0
  unfold stepM
  rw [c0]
  simp only
  by_cases e : s.step = 8
  · rw [if_pos e, if_pos (by omega)]
  · rw [if_neg e, if_neg (by omega)]
def runM (n : Nat) (v : Value) (w : World) (p : Nat) : Nat := 2 * (n - (intOf v).toNat) + stepM w p
/-- What the loop holds between two rounds. -/
structure Going (w0 : World) (Bn : Nat) (w : World) (p : Nat) (ty : TypeId) (z : List Value) (l : Reply.B) (t : Nat) (c' : Int) (s' : Wire.St) (k : Nat) (wr : World) (s1 : Wire.St) (A1 : Option Addr) (c1 : Nat) : Prop where
  le : k ≤ l.length
  rd : RdS w0 Bn wr p ty z s1 A1 c1
  ok : Wire.Ok s1
  fit : Wire.Fit s1
  runs : ∃ t1, Wire.Runs Wire.reader s1 (l.drop k) t1 c' s' ∧ k + t1 = t
  fr : Fr Bn p w wr
set_option maxRecDepth 100000 in
set_option maxHeartbeats 16000000 in
theorem run_str_any (h : RdS w0 Bn w p ty z s A c) (l : Reply.B) (hl : l.length ≤ 4194304) (ok : Wire.Ok s) (ft : Wire.Fit s) {t : Nat} {c' : Int} {s' : Wire.St} (hr : Wire.Runs Wire.reader s l t c' s') (CL : ∀ s1 : Wire.St, Wire.Ok s1 → Wire.Fit s1 → s1.q.headers <+: s'.q.headers → ClosesC s1.q.headers) :
    Calls Tryz.prog 16 #[.pointer (some ⟨p, 0, none⟩), .string (S l)] w fun e w' => e = .returned (.tuple #[.int .i64 (t : Int), .int .i64 c']) ∧ (∃ A' c2, RdS w0 Bn w' p ty z s' A' c2) ∧ Fr Bn p w w' := by
  have G0 : Hid (Going w0 Bn w p ty z l t c' s' 0 w s A c) := ⟨Nat.zero_le _, h, ok, ft, ⟨t, hr, Nat.zero_add _⟩, Fr.refl _ _ _⟩
  have HC := Lib.hid CL
  obtain ⟨n, hn⟩ : ∃ n, n = l.length := ⟨_, rfl⟩
  obtain ⟨ls, hls⟩ : ∃ x, x = S l := ⟨_, rfl⟩
  have lsz : ls.size = n := by rw [hls, S_size, hn]
  have HN := Lib.hid hn
  have HLS := Lib.hid hls
  have nz : n ≤ 4194304 := by omega
  rw [← hls]
  clear h hl ok ft hr CL hn hls
  go_enter Tryz.func16, Tryz.ntmps16
  go_wp2_with fail
  go_loopw [6] (fun v wr => ∃ (k : Nat) (s1 : Wire.St) (A1 : Option Addr) (c1 : Nat), v = .int .i64 k ∧ Hid (Going w0 Bn w p ty z l t c' s' k wr s1 A1 c1)) (fun v wr => runM n v wr p)
  case atStart => exact ⟨0, s, A, c, rfl, G0⟩
  case round =>
    obtain ⟨k, s1, A1, c1, rfl, G⟩ := hrel
    have c0 : wr.cell? ⟨p, 0, none⟩ = some (.int .i64 (s1.step : Int)) := G.out.rd.cell 0
    have kn : k ≤ n := by rw [HN.out]; exact G.out.le
    obtain ⟨j, hj⟩ : ∃ j, j = s1.step := ⟨_, rfl⟩
    rw [← hj] at c0
    have j8 : j ≤ 8 := by rw [hj]; exact G.out.ok.step
    have HJ := Lib.hid hj
    clear hj
    obtain ⟨t1, ht1, htt⟩ := G.out.runs
    have HI := Lib.hid (Wire.runs_inv ht1)
    have PR := Lib.hid (Wire.runs_pre ht1)
    have HT := Lib.hid htt
    clear ht1 htt
    by_cases h8 : j = 8
    · subst h8
      have F : Hid (t = k ∧ c' = 0 ∧ s' = s1) := by
        show _ ∧ _ ∧ _
        rcases HI.out with ⟨_, a, b, d⟩ | ⟨a, _⟩ | ⟨a, _⟩ | ⟨a, _⟩
        · exact ⟨by have := HT.out; omega, b, d⟩
        · exact absurd HJ.out.symm a
        · exact absurd HJ.out.symm a
        · exact absurd HJ.out.symm a
      clear HI PR
      go_wp2_with fail
      go_ret2
      exact ⟨by rw [F.out.1, F.out.2.1]; rfl, ⟨A1, c1, by rw [F.out.2.2]; exact G.out.rd⟩, G.out.fr⟩
    · have j8' : ¬ s1.step = 8 := by rw [← HJ.out]; exact h8
      have f0 : ((j : Int) == 8) = false := by rw [beq_eq_false_iff_ne]; omega
      have f0' : ((j : Int) != 8) = true := by rw [bne_iff_ne]; omega
      have kz : (k : Int) ≤ (ls.size : Int) := by omega
      have kz2 : k ≤ ls.size := by omega
      obtain ⟨d, hd⟩ : ∃ d, d = l.drop k := ⟨_, rfl⟩
      have X1 : ls.extract k n = S d := by rw [HLS.out, S_extract, HN.out, hd, List.take_of_length_le (by rw [List.length_drop]; exact Nat.le_refl _)]
      have dl : d.length = n - k := by rw [hd, List.length_drop, HN.out]
      have WA := Lib.hid (fun u (q : RdS w0 Bn u p ty z s1 A1 c1) => wants_any q G.out.ok.step)
      obtain ⟨q, hq⟩ : ∃ q, q = Wire.size d (Wire.wants s1) := ⟨_, rfl⟩
      have q8 : q ≤ 8192 := by rw [hq]; exact Wire.size_small G.out.ok d
      have CU := Lib.hid (fun u => cut_str_any u d (Wire.wants s1) (fun m hm => by
        have := Wire.size_small G.out.ok d
        rw [hm] at this
        have : m ≤ 8192 := this
        omega))
      rw [← hq] at CU
      rw [← hd, ← hq] at HI
      obtain ⟨wi, hwi⟩ : ∃ x, x = szI (Wire.wants s1) := ⟨_, rfl⟩
      rw [← hwi] at WA CU
      have HD := Lib.hid hd
      have HQ := Lib.hid hq
      have GD := Lib.hid G.out.fr
      clear hd hq hwi
      by_cases hle : q ≤ d.length
      · have F1 : Hid ((if q ≤ d.length then S (d.take q) else S []) = S (d.take q)) := if_pos hle
        rw [F1.out, decide_eq_true hle] at CU
        obtain ⟨pc, hpc⟩ : ∃ x, x = d.take q := ⟨_, rfl⟩
        have pl : pc.length = q := by rw [hpc, List.length_take]; omega
        rw [← hpc] at CU HI
        have TK := Lib.hid (fun u (q : RdS w0 Bn u p ty z s1 A1 c1) => take_any q pc (by omega) G.out.ok j8' G.out.fit (HC.out s1 G.out.ok G.out.fit PR.out))
        have HI2 : Hid (((Wire.take s1 pc).1 ≠ 0 ∧ t1 = q ∧ c' = (Wire.take s1 pc).1 ∧ s' = (Wire.take s1 pc).2) ∨ ((Wire.take s1 pc).1 = 0 ∧ ∃ t2, t1 = q + t2 ∧ Wire.Runs Wire.reader (Wire.take s1 pc).2 (d.drop q) t2 c' s')) := by
          rcases HI.out with ⟨a, _⟩ | ⟨_, a, _⟩ | ⟨_, _, a⟩ | ⟨_, _, a⟩
          · exact absurd a j8'
          · omega
          · exact .inl a
          · exact .inr a
        have OK2 : Hid ((Wire.take s1 pc).1 = 0 → Wire.Ok (Wire.take s1 pc).2) := fun e => G.out.ok.take j8' (fun m hm => by rw [pl, HQ.out, hm]; rfl) (show Wire.take s1 pc = (0, (Wire.take s1 pc).2) by rw [← e])
        have FT2 : Hid (Wire.Fit (Wire.take s1 pc).2) := G.out.fit.take (by omega)
        have LL : Hid ((Wire.take s1 pc).1 = 0 → Wire.left (Wire.take s1 pc).2 (d.drop q) < Wire.left s1 d) := fun e => by
          have := Wire.left_less (s' := (Wire.take s1 pc).2) (l := d) G.out.ok j8' (by rw [← HQ.out]; exact hle) (by rw [← HQ.out, ← hpc, ← e])
          rw [← HQ.out] at this
          exact this
        have SM := Lib.hid (stepM_is G.out.rd)
        have RR := Lib.hid G.out.rd
        obtain ⟨ps, hps⟩ : ∃ x, x = S pc := ⟨_, rfl⟩
        have psz : ps.size = q := by rw [hps, S_size, pl]
        obtain ⟨rc, hrc⟩ : ∃ x, x = (Wire.take s1 pc).1 := ⟨_, rfl⟩
        obtain ⟨s2, hs2⟩ : ∃ x, x = (Wire.take s1 pc).2 := ⟨_, rfl⟩
        have TK2 : Hid (∀ u, RdS w0 Bn u p ty z s1 A1 c1 → Calls Tryz.prog 21 #[.pointer (some ⟨p, 0, none⟩), .string ps] u fun e w' => e = .returned (.int .i64 rc) ∧ (∃ A c, RdS w0 Bn w' p ty z s2 A c) ∧ Fr Bn p u w') := fun u q => by rw [hps, hrc, hs2]; exact TK.out u q
        rw [← hrc, ← hs2] at HI2 OK2 LL
        rw [← hs2] at FT2
        rw [← hps] at CU
        have DLN : Hid (d.length = n - k) := dl
        clear hpc pl TK hps hrc hs2 HI PR F1
        go_upto_region 3 with fail
        refine wp_region_noPanic ?_
        refine wp_region_held_drew (S := fun _ => True) (by kernel_rfl) trivial (fun hHeld => ?_)
        refine take_ (i := 0) (v := ?_) 16 rfl rfl (by kernel_rfl) (by kernel_rfl) (by kernel_rfl) (fun _ _ _ h => h) (Or.inl ⟨by rfl, ?_⟩) (by assumption) ?_
        rotate_left
        · (intro wS hSw; (try dsimp only at hSw); go_simp; try with_reducible rfl)
        simp only [Act.put, List.setIfInBounds_toArray, List.set_cons_zero, List.set_cons_succ]
        refine take_ (i := 1) (v := ?_) 17 rfl rfl (by kernel_rfl) (by kernel_rfl) (by kernel_rfl) (fun _ _ _ h => h) (Or.inl ⟨by rfl, ?_⟩) (by assumption) ?_
        rotate_left
        · (intro wS hSw; (try dsimp only at hSw); go_simp; try with_reducible rfl)
        simp only [Act.put, List.setIfInBounds_toArray, List.set_cons_zero, List.set_cons_succ]
        refine take_ (i := 2) (v := ?_) 18 rfl rfl (by kernel_rfl) (by kernel_rfl) (by kernel_rfl) (fun _ _ _ h => h) (Or.inl ⟨by rfl, ?_⟩) (by assumption) ?_
        rotate_left
        · (intro wS hSw; (try dsimp only at hSw); go_simp; try with_reducible rfl)
        simp only [Act.put, List.setIfInBounds_toArray, List.set_cons_zero, List.set_cons_succ]
        refine take_ (i := 3) (v := ?_) 19 rfl rfl (by kernel_rfl) (by kernel_rfl) (by kernel_rfl) (fun _ _ _ h => h) (Or.inl ⟨by rfl, ?_⟩) (by assumption) ?_
        rotate_left
        · (intro wS hSw; (try dsimp only at hSw); go_simp; try with_reducible rfl)
        simp only [Act.put, List.setIfInBounds_toArray, List.set_cons_zero, List.set_cons_succ]
        refine one_ (i := 4) _ (by kernel_rfl) rfl (fun K hK => ?_)
        go_simp
        refine (WA.out _ (RR.out.under ((Below.refl _ _).drew))).mono ?_
        rintro e w5 ⟨rfl, rfl⟩
        dsimp only
        refine hK.out _ _ trivial (fun hHeld => ?_)
        clear hK K
        refine one_ (i := 5) _ (by kernel_rfl) rfl (fun K hK => ?_)
        go_simp
        refine (CU.out _).mono ?_
        rintro e w6 ⟨rfl, hb6⟩
        dsimp only
        have K6 : Below wr.heap.size wr w6 := ((Below.refl _ _).drew).trans hb6
        have R6 := Lib.hid (RR.out.under K6)
        have D6 := Lib.hid (GD.out.trans (Fr.of_below RR.out.sz K6))
        clear hb6 K6 CU WA
        refine hK.out _ _ trivial (fun hHeld => ?_)
        clear hK K
        refine take_ (i := 6) (v := ?_) 15 rfl rfl (by kernel_rfl) (by kernel_rfl) (by kernel_rfl) (fun _ _ _ h => h) (Or.inl ⟨by rfl, ?_⟩) (by assumption) ?_
        rotate_left
        · (intro wS hSw; (try dsimp only at hSw); go_simp; try with_reducible rfl)
        simp only [Act.put, List.setIfInBounds_toArray]
        refine take_ (i := 7) (v := ?_) 22 rfl rfl (by kernel_rfl) (by kernel_rfl) (by kernel_rfl) (fun _ _ _ h => h) (Or.inl ⟨by rfl, ?_⟩) (by assumption) ?_
        rotate_left
        · (intro wS hSw; (try dsimp only at hSw); go_simp; try with_reducible rfl)
        simp only [Act.put, List.setIfInBounds_toArray]
        refine take_ (i := 8) (v := ?_) 23 rfl rfl (by kernel_rfl) (by kernel_rfl) (by kernel_rfl) (fun _ _ _ h => h) (Or.inl ⟨by rfl, ?_⟩) (by assumption) ?_
        rotate_left
        · (intro wS hSw; (try dsimp only at hSw); go_simp; try with_reducible rfl)
        simp only [Act.put, List.setIfInBounds_toArray]
        refine take_ (i := 9) (v := ?_) 7 rfl rfl (by kernel_rfl) (by kernel_rfl) (by kernel_rfl) (fun _ _ _ h => h) (Or.inl ⟨by rfl, ?_⟩) (by assumption) ?_
        rotate_left
        · (intro wS hSw; (try dsimp only at hSw); go_simp; try with_reducible rfl)
        simp only [Act.put, List.setIfInBounds_toArray]
        refine take_ (i := 10) (v := ?_) 8 rfl rfl (by kernel_rfl) (by kernel_rfl) (by kernel_rfl) (fun _ _ _ h => h) (Or.inl ⟨by rfl, ?_⟩) (by assumption) ?_
        rotate_left
        · (intro wS hSw; (try dsimp only at hSw); go_simp; try with_reducible rfl)
        simp only [Act.put, List.setIfInBounds_toArray]
        refine wpAnyH_done (by kernel_rfl) ?_ _
        refine NoPanic.normal ?_
        go_wp2_with fail
        refine (TK2.out _ R6.out).mono ?_
        rintro e w7 ⟨rfl, ⟨A2, c2, r7⟩, d7⟩
        have R7 := Lib.hid r7
        have D7 := Lib.hid (D6.out.trans d7)
        clear r7 d7 TK2
        by_cases hz : rc = 0
        · have NX : Hid (Going w0 Bn w p ty z l t c' s' (k + q) w7 s2 A2 c2) := by
            refine ⟨by rw [← HN.out]; omega, R7.out, OK2.out hz, FT2.out, ?_, D7.out⟩
            rcases HI2.out with ⟨a, _⟩ | ⟨_, t2, a, b⟩
            · exact absurd hz a
            · refine ⟨t2, ?_, by have := HT.out; omega⟩
              rw [HD.out, List.drop_drop] at b
              exact b
          have MS : Hid (runM n (.int .i64 ((k + q : Nat) : Int)) w7 p < runM n (.int .i64 (k : Int)) wr p) := by
            have a := LL.out hz
            unfold Wire.left at a
            show _ < _
            unfold runM
            rw [SM.out, stepM_is R7.out]
            simp only [intOf, Int.toNat_natCast]
            rw [List.length_drop, DLN.out] at a
            omega
          subst hz
          clear HI2 OK2 LL
          go_wp2_with fail
          go_roundw
          case rel => exact ⟨k + q, s2, A2, c2, by go_num, NX⟩
          case measure => have := MS.out; simpa using this
        · have f5 : (rc == 0) = false := by rw [beq_eq_false_iff_ne]; exact hz
          have f5' : (rc != 0) = true := by rw [bne_iff_ne]; exact hz
          have F : Hid (t = k + q ∧ c' = rc ∧ s' = s2) := by
            show _ ∧ _ ∧ _
            rcases HI2.out with ⟨_, a, b, e⟩ | ⟨a, _⟩
            · exact ⟨by have := HT.out; omega, b, e⟩
            · exact absurd a hz
          clear HI2 OK2 LL hz
          go_wp2_with fail
          go_ret2
          exact ⟨by rw [F.out.1, F.out.2.1]; simp, ⟨A2, c2, by rw [F.out.2.2]; exact R7.out⟩, D7.out⟩
      · have F1 : Hid ((if q ≤ d.length then S (d.take q) else S []) = S []) := if_neg hle
        rw [F1.out, decide_eq_false hle] at CU
        have F : Hid (t = k ∧ c' = -1 ∧ s' = s1) := by
          show _ ∧ _ ∧ _
          rcases HI.out with ⟨a, _⟩ | ⟨_, _, a, b, e⟩ | ⟨_, a, _⟩ | ⟨_, a, _⟩
          · exact absurd a j8'
          · exact ⟨by have := HT.out; omega, b, e⟩
          · exact absurd a hle
          · exact absurd a hle
        have RR := Lib.hid G.out.rd
        clear HI PR F1
        go_upto_region 3 with fail
        refine wp_region_noPanic ?_
        refine wp_region_held_drew (S := fun _ => True) (by kernel_rfl) trivial (fun hHeld => ?_)
        refine take_ (i := 0) (v := ?_) 16 rfl rfl (by kernel_rfl) (by kernel_rfl) (by kernel_rfl) (fun _ _ _ h => h) (Or.inl ⟨by rfl, ?_⟩) (by assumption) ?_
        rotate_left
        · (intro wS hSw; (try dsimp only at hSw); go_simp; try with_reducible rfl)
        simp only [Act.put, List.setIfInBounds_toArray, List.set_cons_zero, List.set_cons_succ]
        refine take_ (i := 1) (v := ?_) 17 rfl rfl (by kernel_rfl) (by kernel_rfl) (by kernel_rfl) (fun _ _ _ h => h) (Or.inl ⟨by rfl, ?_⟩) (by assumption) ?_
        rotate_left
        · (intro wS hSw; (try dsimp only at hSw); go_simp; try with_reducible rfl)
        simp only [Act.put, List.setIfInBounds_toArray, List.set_cons_zero, List.set_cons_succ]
        refine take_ (i := 2) (v := ?_) 18 rfl rfl (by kernel_rfl) (by kernel_rfl) (by kernel_rfl) (fun _ _ _ h => h) (Or.inl ⟨by rfl, ?_⟩) (by assumption) ?_
        rotate_left
        · (intro wS hSw; (try dsimp only at hSw); go_simp; try with_reducible rfl)
        simp only [Act.put, List.setIfInBounds_toArray, List.set_cons_zero, List.set_cons_succ]
        refine take_ (i := 3) (v := ?_) 19 rfl rfl (by kernel_rfl) (by kernel_rfl) (by kernel_rfl) (fun _ _ _ h => h) (Or.inl ⟨by rfl, ?_⟩) (by assumption) ?_
        rotate_left
        · (intro wS hSw; (try dsimp only at hSw); go_simp; try with_reducible rfl)
        simp only [Act.put, List.setIfInBounds_toArray, List.set_cons_zero, List.set_cons_succ]
        refine one_ (i := 4) _ (by kernel_rfl) rfl (fun K hK => ?_)
        go_simp
        refine (WA.out _ (RR.out.under ((Below.refl _ _).drew))).mono ?_
        rintro e w5 ⟨rfl, rfl⟩
        dsimp only
        refine hK.out _ _ trivial (fun hHeld => ?_)
        clear hK K
        refine one_ (i := 5) _ (by kernel_rfl) rfl (fun K hK => ?_)
        go_simp
        refine (CU.out _).mono ?_
        rintro e w6 ⟨rfl, hb6⟩
        dsimp only
        have K6 : Below wr.heap.size wr w6 := ((Below.refl _ _).drew).trans hb6
        have R6 := Lib.hid (RR.out.under K6)
        have D6 := Lib.hid (GD.out.trans (Fr.of_below RR.out.sz K6))
        clear hb6 K6 CU WA
        refine hK.out _ _ trivial (fun hHeld => ?_)
        clear hK K
        refine take_ (i := 6) (v := ?_) 15 rfl rfl (by kernel_rfl) (by kernel_rfl) (by kernel_rfl) (fun _ _ _ h => h) (Or.inl ⟨by rfl, ?_⟩) (by assumption) ?_
        rotate_left
        · (intro wS hSw; (try dsimp only at hSw); go_simp; try with_reducible rfl)
        simp only [Act.put, List.setIfInBounds_toArray]
        refine take_ (i := 7) (v := ?_) 22 rfl rfl (by kernel_rfl) (by kernel_rfl) (by kernel_rfl) (fun _ _ _ h => h) (Or.inl ⟨by rfl, ?_⟩) (by assumption) ?_
        rotate_left
        · (intro wS hSw; (try dsimp only at hSw); go_simp; try with_reducible rfl)
        simp only [Act.put, List.setIfInBounds_toArray]
        refine take_ (i := 8) (v := ?_) 23 rfl rfl (by kernel_rfl) (by kernel_rfl) (by kernel_rfl) (fun _ _ _ h => h) (Or.inl ⟨by rfl, ?_⟩) (by assumption) ?_
        rotate_left
        · (intro wS hSw; (try dsimp only at hSw); go_simp; try with_reducible rfl)
        simp only [Act.put, List.setIfInBounds_toArray]
        refine take_ (i := 9) (v := ?_) 7 rfl rfl (by kernel_rfl) (by kernel_rfl) (by kernel_rfl) (fun _ _ _ h => h) (Or.inl ⟨by rfl, ?_⟩) (by assumption) ?_
        rotate_left
        · (intro wS hSw; (try dsimp only at hSw); go_simp; try with_reducible rfl)
        simp only [Act.put, List.setIfInBounds_toArray]
        refine take_ (i := 10) (v := ?_) 8 rfl rfl (by kernel_rfl) (by kernel_rfl) (by kernel_rfl) (fun _ _ _ h => h) (Or.inl ⟨by rfl, ?_⟩) (by assumption) ?_
        rotate_left
        · (intro wS hSw; (try dsimp only at hSw); go_simp; try with_reducible rfl)
        simp only [Act.put, List.setIfInBounds_toArray]
        refine wpAnyH_done (by kernel_rfl) ?_ _
        refine NoPanic.normal ?_
        go_wp2_with fail
        go_ret2
        exact ⟨by rw [F.out.1, F.out.2.1]; rfl, ⟨A1, c1, by rw [F.out.2.2]; exact R6.out⟩, D6.out⟩
end
end Go.Proofs.YtnodhbgkoedalaaGreatDoor
