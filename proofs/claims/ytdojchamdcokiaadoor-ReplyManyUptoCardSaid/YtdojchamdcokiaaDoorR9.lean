/-
  reply: what the document's Write and Same answer.
-/
import Derived.Test.YtdojchamdcokiaaDoorR8
import Derived.Laws.StructEq
namespace Go.Proofs.YtdojchamdcokiaaDoor
open Go.RowKit Reply

theorem hdrLines_len : ∀ l : List (B × B), (∀ h ∈ l, h.1.length ≤ 1048576 ∧ h.2.length ≤ 1048576) → (hdrLines l).length ≤ l.length * 2097160
  | [], _ => Nat.zero_le _
  | h :: l, hh => by
    have ih := hdrLines_len l (fun x hx => hh x (List.mem_cons_of_mem _ hx))
    have h0 := hh h (by simp)
    have e1 : crlf.length = 2 := rfl
    have e2 : colon.length = 2 := rfl
    have e : hdrLines (h :: l) = hdrLine h ++ hdrLines l := by unfold hdrLines; rw [List.flatMap_cons]
    rw [e]
    unfold hdrLine
    simp only [List.length_append, List.length_cons]
    omega
theorem top_len (r : Rs) (k : Nat) (hf : RFit r) (hs : r.status ∈ table.map (·.1)) (hn : r.headers.length ≤ 32) (hk : k ≤ 1048576) : (top r k).length ≤ 134217728 := by
  obtain ⟨h0, h1, _, _⟩ := status_is hs
  have a := statusLine_len r.status h0 h1
  have b := hdrLines_len r.headers hf.each
  have e1 : crlf.length = 2 := rfl
  have e3 : closeLine.length = 17 := rfl
  have e4 : lengthName.length = 16 := rfl
  have d := dec_len k
  unfold top lenLine
  rw [itoa_nat]
  simp only [List.length_append]
  have x1 : (if r.status = 204 then ([] : B) else lengthName ++ Lib.decDigits k ++ crlf).length ≤ 16 + (k + 1) + 2 := by
    split
    · simp
    · simp only [List.length_append]; omega
  have x2 : (if r.close then closeLine ++ crlf else ([] : B)).length ≤ 19 := by
    split
    · simp only [List.length_append]; omega
    · simp
  omega
/-- What Write answers. -/
def wroteV (r : Rs) : Value := .tuple #[.string (if good r then S (form r) else S []), .int .i64 (if good r then 0 else 1)]
theorem ret_two {a b : ByteArray} {x y : Int} (h : a = b) (h2 : x = y) : Ending.returned (.tuple #[.string a, .int .i64 x]) = .returned (.tuple #[.string b, .int .i64 y]) := by rw [h, h2]
theorem pair_fields : (Tryd.prog.fieldsOf 37).toList.map (fun f => (f.name != "_", f.type, f.offset)) = [(true, 9, 0), (true, 9, 1)] := by kernel_rfl
theorem pair_ne (u : World) (a b c d : ByteArray) : (binOp .neq 37 (.agg #[.string a, .string b]) (.agg #[.string c, .string d])).run Tryd.prog u = .ok (.bool !(a.toList == c.toList && b.toList == d.toList)) u := by
  rw [run_neq_struct, show (10000 : Nat) = 9999 + 1 from rfl, run_equalIn_agg u 9999 _ _ _ (by kernel_rfl) (by kernel_rfl)]
  have h := pair_fields
  generalize (Tryd.prog.fieldsOf 37).toList = L at h ⊢
  rcases L with _ | ⟨f, _ | ⟨g, _ | ⟨x, r⟩⟩⟩
  · cases h
  · simp at h
  · simp only [List.map_cons, List.map_nil, List.cons.injEq, Prod.mk.injEq, and_true, bne_iff_ne] at h
    obtain ⟨⟨n1, t1, o1⟩, n2, t2, o2⟩ := h
    simp only [Op.eqFields, n1, n2, t1, t2, o1, o2, ne_eq, not_false_eq_true, if_true]
    simp [part, go_sem]
    by_cases h1 : a.toList = c.toList
    · by_cases h2 : b.toList = d.toList
      · simp [h1, h2]
      · simp [h1, h2]
    · simp [h1]
  · simp at h
theorem hdr_ne {a b : B × B} {x y z u : ByteArray} (hx : x = S a.1) (hy : y = S a.2) (hz : z = S b.1) (hu : u = S b.2) : (!x.toList == z.toList || !y.toList == u.toList) = !decide (a = b) := by
  rw [hx, hy, hz, hu, S_eq, S_eq]
  by_cases h : a = b
  · subst h; simp
  · rw [decide_eq_false h]
    by_cases c1 : a.1 = b.1
    · have c2 : ¬ a.2 = b.2 := fun c2 => h (Prod.ext c1 c2)
      simp [c1, c2]
    · simp [c1]
/-- Both are told alike. -/
def sameR (a b : Rs) : Bool := decide (a = b)
theorem same_no {a b : Rs} (h : a.status ≠ b.status ∨ a.body ≠ b.body ∨ a.head ≠ b.head ∨ a.close ≠ b.close ∨ a.headers ≠ b.headers) : sameR a b = false := decide_eq_false (fun e => by
  subst e
  rcases h with h | h | h | h | h <;> exact h rfl)
theorem same_yes {a b : Rs} (h1 : a.status = b.status) (h2 : a.body = b.body) (h3 : a.head = b.head) (h4 : a.close = b.close) (h5 : a.headers = b.headers) : sameR a b = true := decide_eq_true (by
  obtain ⟨_, _, _, _, _⟩ := a
  obtain ⟨_, _, _, _, _⟩ := b
  simp only at h1 h2 h3 h4 h5
  rw [h1, h2, h3, h4, h5])
set_option maxRecDepth 100000 in
set_option maxHeartbeats 8000000 in
theorem same_any (w : World) (a b : Rs) (A Z : Option Addr) (c d : Nat) (hA : HAt w A a.headers) (hZ : HAt w Z b.headers) (hl : a.headers.length ≤ 1048576) :
    Calls Tryd.prog 8 #[rV a A c, rV b Z d] w fun e w' => e = .returned (.bool (sameR a b)) ∧ Below w.heap.size w w' := by
  have HA := Lib.hid hA
  have HZ := Lib.hid hZ
  unfold rV
  obtain ⟨n, hn⟩ : ∃ n, n = a.headers.length := ⟨_, rfl⟩
  obtain ⟨m, hm⟩ : ∃ n, n = b.headers.length := ⟨_, rfl⟩
  obtain ⟨bs, hbs⟩ : ∃ x, x = S a.body := ⟨_, rfl⟩
  obtain ⟨bt, hbt⟩ : ∃ x, x = S b.body := ⟨_, rfl⟩
  obtain ⟨s1, hs1⟩ : ∃ x, x = a.status := ⟨_, rfl⟩
  obtain ⟨s2, hs2⟩ : ∃ x, x = b.status := ⟨_, rfl⟩
  obtain ⟨h1, hh1⟩ : ∃ x, x = a.head := ⟨_, rfl⟩
  obtain ⟨h2, hh2⟩ : ∃ x, x = b.head := ⟨_, rfl⟩
  obtain ⟨c1, hc1⟩ : ∃ x, x = a.close := ⟨_, rfl⟩
  obtain ⟨c2, hc2⟩ : ∃ x, x = b.close := ⟨_, rfl⟩
  have fb : (bs.toList == bt.toList) = decide (a.body = b.body) := by rw [hbs, hbt]; exact S_eq _ _
  rw [← hn, ← hm, ← hbs, ← hbt, ← hs1, ← hs2, ← hh1, ← hh2, ← hc1, ← hc2]
  have HN := Lib.hid hn
  have HM := Lib.hid hm
  have hnb : n ≤ 1048576 := by omega
  have X1 := Lib.hid hs1
  have X2 := Lib.hid hs2
  have X3 := Lib.hid hh1
  have X4 := Lib.hid hh2
  have X5 := Lib.hid hc1
  have X6 := Lib.hid hc2
  obtain ⟨W0, hW0⟩ : ∃ x, x = (w.alloc (.cells #[.int .i64 s1, .slice A n c, .string bs, .bool h1, .bool c1] 24)).alloc (.cells #[.int .i64 s2, .slice Z m d, .string bt, .bool h2, .bool c2] 24) := ⟨_, rfl⟩
  have HW0 := Lib.hid hW0
  have P1 : Hid (W0.cell? ⟨w.heap.size, 1, none⟩ = some (.slice A n c)) := by
    show _ = _
    have e : Held (w.alloc (.cells #[.int .i64 s1, .slice A n c, .string bs, .bool h1, .bool c1] 24)) w.heap.size 24 #[.int .i64 s1, .slice A n c, .string bs, .bool h1, .bool c1] := Held.new _ _ _ rfl
    rw [hW0]
    exact (e.alloc _).cell 1
  have P2 : Hid (W0.cell? ⟨w.heap.size + 1, 1, none⟩ = some (.slice Z m d)) := by
    show _ = _
    have e : Held W0 (w.heap.size + 1) 24 #[.int .i64 s2, .slice Z m d, .string bt, .bool h2, .bool c2] := by rw [hW0]; exact Held.new _ _ _ (by simp)
    exact e.cell 1
  have B0 : Hid (Below w.heap.size w W0) := by show Below _ _ _; rw [hW0]; exact ((Below.refl _ _).alloc (Nat.le_refl _) _).alloc (by simp) _
  have LT0 : Hid (w.heap.size + 1 < W0.heap.size) := by show _ < _; rw [hW0]; simp
  clear hn hm hbs hbt hs1 hs2 hh1 hh2 hc1 hc2 hA hZ hW0 hl
  by_cases g1 : s1 = s2
  · have e1 : (s1 == s2) = true := by rw [g1]; simp
    have e1n : (s1 != s2) = false := by rw [g1]; simp
    by_cases g2 : a.body = b.body
    · rw [decide_eq_true g2] at fb
      by_cases g3 : h1 = h2
      · have e3 : (h1 == h2) = true := by rw [g3]; simp
        have e3n : (h1 != h2) = false := by rw [g3]; simp
        by_cases g4 : c1 = c2
        · have e4 : (c1 == c2) = true := by rw [g4]; simp
          have e4n : (c1 != c2) = false := by rw [g4]; simp
          by_cases g5 : n = m
          · have FY : Hid (a.headers = b.headers → sameR a b = true) := fun h => same_yes (by rw [← X1.out, ← X2.out]; exact g1) g2 (by rw [← X3.out, ← X4.out]; exact g3) (by rw [← X5.out, ← X6.out]; exact g4) h
            have e5 : ((n : Int) == (m : Int)) = true := by rw [g5]; simp
            have e5n : ((n : Int) != (m : Int)) = false := by rw [g5]; simp
            have HNM := Lib.hid g5
            clear g1 g2 g3 g4 g5
            go_enter Tryd.func8, Tryd.ntmps8
            go_wp2_with fail
            go_loopw [5] (fun i wr => ∃ j : Nat, j ≤ n ∧ i = .int .i64 j ∧ Hid ((∀ i (h1 : i < a.headers.length) (h2 : i < b.headers.length), i < j → a.headers[i] = b.headers[i]) ∧ ∃ q, wr = W0.drewN q)) (fun i _ => n - (intOf i).toNat)
            case atStart => exact ⟨0, by omega, rfl, fun i _ _ h => by omega, 0, HW0.out.symm⟩
            case round =>
              obtain ⟨j, hj, rfl, G⟩ := hrel
              obtain ⟨q0, rfl⟩ := G.out.2
              have x1 : ∀ q, (W0.drewN q).cell? ⟨w.heap.size, 1, none⟩ = some (.slice A n c) := fun _ => P1.out
              have x2 : ∀ q, (W0.drewN q).cell? ⟨w.heap.size + 1, 1, none⟩ = some (.slice Z m d) := fun _ => P2.out
              have x10 : W0.cell? ⟨w.heap.size, 1, none⟩ = some (.slice A n c) := P1.out
              have x20 : W0.cell? ⟨w.heap.size + 1, 1, none⟩ = some (.slice Z m d) := P2.out
              have Bq : Hid (Below w.heap.size w (W0.drewN q0)) := below_drewN B0.out q0
              by_cases hlt : j < n
              · have h1 : j < a.headers.length := by rw [← HN.out]; exact hlt
                have h2 : j < b.headers.length := by rw [← HM.out, ← HNM.out]; exact hlt
                have H1 := Lib.hid h1
                have H2 := Lib.hid h2
                have hjm : j < m := by rw [← HNM.out]; exact hlt
                have jm : (j : Int) < (m : Int) := by omega
                obtain ⟨g, off, rfl, a0, a1⟩ := (HA.out.below B0.out).at_ H1.out
                obtain ⟨g2, off2, rfl, b0, b1⟩ := (HZ.out.below B0.out).at_ H2.out
                obtain ⟨u1, hu1⟩ : ∃ x, x = S (a.headers[j]'H1.out).1 := ⟨_, rfl⟩
                obtain ⟨u2, hu2⟩ : ∃ x, x = S (a.headers[j]'H1.out).2 := ⟨_, rfl⟩
                obtain ⟨v1, hv1⟩ : ∃ x, x = S (b.headers[j]'H2.out).1 := ⟨_, rfl⟩
                obtain ⟨v2, hv2⟩ : ∃ x, x = S (b.headers[j]'H2.out).2 := ⟨_, rfl⟩
                have NE := Lib.hid (hdr_ne (a := a.headers[j]'H1.out) (b := b.headers[j]'H2.out) hu1 hu2 hv1 hv2)
                rw [← hu1] at a0
                rw [← hu2] at a1
                rw [← hv1] at b0
                rw [← hv2] at b1
                have y0 : ∀ q, (W0.drewN q).cell? ⟨g, off + j * 2, none⟩ = some (.string u1) := fun _ => a0
                have y1 : ∀ q, (W0.drewN q).cell? ⟨g, off + j * 2 + 1, none⟩ = some (.string u2) := fun _ => a1
                have z0 : ∀ q, (W0.drewN q).cell? ⟨g2, off2 + j * 2, none⟩ = some (.string v1) := fun _ => b0
                have z1 : ∀ q, (W0.drewN q).cell? ⟨g2, off2 + j * 2 + 1, none⟩ = some (.string v2) := fun _ => b1
                have PN := pair_ne
                have lim : (j : Int) ≤ 1048576 := by omega
                clear hu1 hu2 hv1 hv2 h1 h2
                go_upto_region 6 with fail
                go_quiet (fail)
                rw [NE.out]
                by_cases he : a.headers[j]'H1.out = b.headers[j]'H2.out
                · rw [decide_eq_true he]
                  have G2 : Hid ((∀ i (h1 : i < a.headers.length) (h2 : i < b.headers.length), i < j + 1 → a.headers[i] = b.headers[i]) ∧ ∃ q, (W0.drewN q0).drewN nq = W0.drewN q) := ⟨fun i i1 i2 hi => by
                    rcases Nat.lt_or_ge i j with h | h
                    · exact G.out.1 i i1 i2 h
                    · obtain rfl : i = j := by omega
                      exact he, ⟨_, World.drewN_drewN _ _ _⟩⟩
                  clear he
                  go_wp2_with fail
                  go_roundw
                  case rel => exact ⟨j + 1, by omega, by go_num, G2.out.1, _, rfl⟩
                  case measure => simp [intOf]; omega
                · rw [decide_eq_false he]
                  have F : Hid (sameR a b = false) := same_no (.inr (.inr (.inr (.inr (fun e => he (by simp only [e]))))))
                  clear he
                  go_wp2_with fail
                  go_ret
                  exact ⟨ret_bool F.out.symm, below_drewN Bq.out nq⟩
              · obtain rfl : j = n := by omega
                have F : Hid (sameR a b = true) := FY.out (List.ext_getElem (by rw [← HN.out, ← HM.out, HNM.out]) (fun i i1 i2 => G.out.1 i i1 i2 (by rw [HN.out]; exact i1)))
                go_wp2_with fail
                go_ret
                exact ⟨ret_bool F.out.symm, Bq.out⟩
          · have F : Hid (sameR a b = false) := same_no (.inr (.inr (.inr (.inr (fun h => g5 (by rw [HN.out, HM.out, h]))))))
            have e5 : ((n : Int) == (m : Int)) = false := by rw [beq_eq_false_iff_ne]; omega
            have e5n : ((n : Int) != (m : Int)) = true := by rw [bne_iff_ne]; omega
            clear g1 g2 g3 g4 g5
            go_enter Tryd.func8, Tryd.ntmps8
            go_wp2_with fail
            go_ret
            exact ⟨ret_bool F.out.symm, by rw [← HW0.out]; exact B0.out⟩
        · have F : Hid (sameR a b = false) := same_no (.inr (.inr (.inr (.inl (by rw [← X5.out, ← X6.out]; exact g4)))))
          have e4 : (c1 == c2) = false := by rw [beq_eq_false_iff_ne]; exact g4
          have e4n : (c1 != c2) = true := by rw [bne_iff_ne]; exact g4
          clear g1 g2 g3 g4
          go_enter Tryd.func8, Tryd.ntmps8
          go_wp2_with fail
          go_ret
          exact ⟨ret_bool F.out.symm, by rw [← HW0.out]; exact B0.out⟩
      · have F : Hid (sameR a b = false) := same_no (.inr (.inr (.inl (by rw [← X3.out, ← X4.out]; exact g3))))
        have e3 : (h1 == h2) = false := by rw [beq_eq_false_iff_ne]; exact g3
        have e3n : (h1 != h2) = true := by rw [bne_iff_ne]; exact g3
        clear g1 g2 g3
        go_enter Tryd.func8, Tryd.ntmps8
        go_wp2_with fail
        go_ret
        exact ⟨ret_bool F.out.symm, by rw [← HW0.out]; exact B0.out⟩
    · have F : Hid (sameR a b = false) := same_no (.inr (.inl g2))
      rw [decide_eq_false g2] at fb
      clear g1 g2
      go_enter Tryd.func8, Tryd.ntmps8
      go_wp2_with fail
      go_ret
      exact ⟨ret_bool F.out.symm, by rw [← HW0.out]; exact B0.out⟩
  · have F : Hid (sameR a b = false) := same_no (.inl (by rw [← X1.out, ← X2.out]; exact g1))
    have e1 : (s1 == s2) = false := by rw [beq_eq_false_iff_ne]; exact g1
    have e1n : (s1 != s2) = true := by rw [bne_iff_ne]; exact g1
    clear g1
    go_enter Tryd.func8, Tryd.ntmps8
    go_wp2_with fail
    go_ret
    exact ⟨ret_bool F.out.symm, by rw [← HW0.out]; exact B0.out⟩
end Go.Proofs.YtdojchamdcokiaaDoor
