/-
  docketref06: Good, Scan, Same. · docketref06: Scan. · docketref06: Same.
-/
import Derived.Test.YtldmllmkckklhaaGreatDoorQA65
import Derived.BigQuiet
import Derived.Laws.StructEq
namespace Go.Proofs.YtldmllmkckklhaaGreatDoor
open Go.RowKit Wal

theorem pair_fields : (Tryz.prog.fieldsOf 62).toList.map (fun f => (f.name != "_", f.type, f.offset)) = [(true, 9, 0), (true, 9, 1)] := by kernel_rfl
theorem pair_ne (u : World) (a b c d : ByteArray) : (binOp .neq 62 (.agg #[.string a, .string b]) (.agg #[.string c, .string d])).run Tryz.prog u = .ok (.bool !(a.toList == c.toList && b.toList == d.toList)) u := by
  rw [run_neq_struct, show (10000 : Nat) = 9999 + 1 from rfl, run_equalIn_agg u 9999 _ _ _ (by kernel_rfl) (by kernel_rfl)]
  have h := pair_fields
  generalize (Tryz.prog.fieldsOf 62).toList = L at h ⊢
  rcases L with _ | ⟨f, _ | ⟨g, _ | ⟨x, r⟩⟩⟩
  · cases h
  · simp at h
  · simp only [List.map_cons, List.map_nil, List.cons.injEq, Prod.mk.injEq, and_true, bne_iff_ne] at h
    obtain ⟨⟨n1, t1, o1⟩, n2, t2, o2⟩ := h
    simp only [Op.eqFields, n1, n2, t1, t2, o1, o2, ne_eq, not_false_eq_true, if_true]
    simp [part, go_sem]
    by_cases h1 : a.toList = c.toList
    · by_cases h2 : b.toList = d.toList
      · simp [h1, h2]
      · simp [h1, h2]
    · simp [h1]
  · simp at h
set_option maxRecDepth 100000 in
theorem good_any (w : World) (k v : List Nat) : Calls Tryz.prog 27 #[.string (strB k), .string (strB v)] w fun x w' => x = .returned (.bool (goodK k && goodV v)) ∧ w = w' := by
  have s1 := strB_size k
  have s2 := strB_size v
  unfold goodK goodV
  by_cases c0 : k = []
  · subst c0
    have e0 : (strB ([] : List Nat)).toList.isEmpty = true := by rw [ByteArray.toList_eq]; rfl
    go_enter Tryz.func27, Tryz.ntmps27
    go_wp2_with fail
    go_ret
    exact ⟨by simp, rfl⟩
  · have hp : 0 < k.length := List.length_pos_iff.2 c0
    have e0 : (strB k).toList.isEmpty = false := strB_some hp
    by_cases c1 : k.length ≤ 128
    · have i1 : (k.length : Int) ≤ 128 := by omega
      by_cases c2 : v.length ≤ 64
      · have i2 : (v.length : Int) ≤ 64 := by omega
        go_enter Tryz.func27, Tryz.ntmps27
        go_wp2_with fail
        go_ret
        exact ⟨by simp [c1, c2]; omega, rfl⟩
      · have i2 : ¬ (v.length : Int) ≤ 64 := by omega
        go_enter Tryz.func27, Tryz.ntmps27
        go_wp2_with fail
        go_ret
        exact ⟨by simp, rfl⟩
    · have i1 : ¬ (k.length : Int) ≤ 128 := by omega
      go_enter Tryz.func27, Tryz.ntmps27
      go_wp2_with fail
      go_ret
      exact ⟨by simp, rfl⟩
theorem fromE_snoc (X : List En) (y : En) (k : List Nat) : fromE (X ++ [y]) k = fromE X k ++ if ltB y.1 k = true then [] else [y] := by
  unfold fromE
  rw [List.filter_append]
  congr 1
  rw [List.filter_cons]
  cases ltB y.1 k <;> simp
end Go.Proofs.YtldmllmkckklhaaGreatDoor

namespace Go.Proofs.YtldmllmkckklhaaGreatDoor
open Go.RowKit Wal

/-- One pair more. -/
theorem scan_snoc (F : List En) (y : En) (M : Nat) : (if (F.take M).length < M then F.take M ++ [y] else F.take M) = (F ++ [y]).take M := by
  by_cases c : F.length < M
  · rw [List.take_of_length_le (by omega), if_pos c, List.take_of_length_le (by rw [List.length_append]; simp; omega)]
  · rw [if_neg (by rw [List.length_take]; omega), List.take_append_of_le_length (by omega)]
set_option maxRecDepth 100000 in
set_option maxHeartbeats 1600000 in
theorem rscan_any (w : World) (base r : Nat) (l : List En) (A : Option Addr) (c : Nat) (h : RefP w base r l A c) (hb : ∀ e ∈ l, ∀ x ∈ e.1, x < 256) (hl : l.length ≤ 50000) (k : List Nat) (hk8 : ∀ x ∈ k, x < 256) (most : Int) :
    Calls Tryz.prog 19 #[.pointer (some ⟨r, 0, none⟩), .string (strB k), .int .i64 most] w fun x w' => ∃ v, x = .returned v ∧ OwnP w' w.heap.size v ((fromE l k).take most.toNat) ∧ Below w.heap.size w w' := by
  have PA := Lib.hid (h.own.at_.2)
  have BK := Lib.hid h.blk
  have HB := Lib.hid hb
  have K8 := Lib.hid hk8
  have lt := h.blk.lt
  have HL : Hid (l.length ≤ 50000) := hl
  obtain ⟨m, hm⟩ : ∃ m, m = l.length := ⟨_, rfl⟩
  rw [← hm] at BK
  have HM := Lib.hid hm
  obtain ⟨M, hM⟩ : ∃ M, M = most.toNat := ⟨_, rfl⟩
  have HMM := Lib.hid hM
  rw [← hM]
  clear h hb hk8 hl hm hM
  go_enter Tryz.func19, Tryz.ntmps19
  go_wp2_with fail
  go_loopw [7, 8] (fun va i wr => ∃ (j : Nat) (acc : List En) (A' : Option Addr) (c' : Nat), j ≤ l.length ∧ i = .int .i64 j ∧ va = .slice A' acc.length c' ∧ Hid (acc = (fromE (l.take j) k).take M ∧ OwnP wr w.heap.size (.slice A' acc.length c') acc ∧ Below w.heap.size w wr)) (fun _ i _ => l.length - (intOf i).toNat)
  case atStart => exact ⟨0, [], none, 0, by omega, rfl, rfl, by simp [fromE], OwnP.nil _ _, Below.refl _ _⟩
  case round =>
    obtain ⟨j, acc, A', c', hj, rfl, rfl, G⟩ := hrel
    have hm := HM.out
    have hl := HL.out
    have BR := Lib.hid (BK.out.below G.out.2.2 BK.out.lt)
    have c0 := BR.out.cell 0
    have lr := BR.out.lt
    have la : acc.length ≤ j := by
      rw [G.out.1, List.length_take]
      unfold fromE
      have := List.length_filter_le (fun e : En => !ltB e.1 k) (l.take j)
      rw [List.length_take] at this
      omega
    by_cases hlt : j < l.length
    · obtain ⟨g, off, rfl, x0, x1⟩ := (PA.out.below G.out.2.2).at_ hlt
      have LS := less_strB (HB.out _ (List.getElem_mem hlt)) K8.out
      have TF : Hid (fromE (l.take (j + 1)) k = fromE (l.take j) k ++ if ltB l[j].1 k = true then [] else [l[j]]) := by
        show _ = _
        rw [List.take_succ_eq_append_getElem hlt, fromE_snoc]
      have jm : (j : Int) < (m : Int) := by omega
      have lim : (j : Int) ≤ 50000 := by omega
      obtain ⟨kx, vx, hkv⟩ : ∃ kx vx, l[j] = (kx, vx) := ⟨_, _, rfl⟩
      rw [hkv] at x0 x1 LS TF
      dsimp only at x0 x1 LS TF
      clear hkv
      by_cases e : ltB kx k = true
      · rw [e] at LS
        have G2 : Hid (acc = (fromE (l.take (j + 1)) k).take M) := by
          show _ = _
          rw [TF.out, if_pos e, List.append_nil]
          exact G.out.1
        clear e hm TF
        go_wp2_with fail
        go_roundw
        case rel => exact ⟨j + 1, acc, A', c', by omega, by go_num, rfl, G2.out, G.out.2⟩
        case measure => simp [intOf]; omega
      · rw [Bool.eq_false_iff.2 e] at LS
        have SN := Lib.hid (scan_snoc (fromE (l.take j) k) (kx, vx) M)
        by_cases hM : acc.length < M
        · have i1 : (acc.length : Int) < most := by have := HMM.out; omega
          have G2 : Hid (acc ++ [(kx, vx)] = (fromE (l.take (j + 1)) k).take M) := by
            show _ = _
            rw [TF.out, if_neg e, ← SN.out, ← G.out.1, if_pos hM]
          obtain ⟨w9, hw9⟩ : ∃ w9, w9 = wr.alloc (.cells #[.string (strB kx), .string (strB vx)] 62) := ⟨_, rfl⟩
          have U9 := Lib.hid (pair_row hw9)
          have P9 := Lib.hid (G.out.2.1.below_ U9.out.1)
          have B9 : Hid (Below w.heap.size w w9) := G.out.2.2.trans (U9.out.1.mono G.out.2.2.size)
          have HW9 := Lib.hid hw9
          have SZ : Hid (acc.length + 1 ≤ 100000) := by show _ ≤ _; omega
          clear e hm TF hw9 hM SN
          go_wp2_with (at_builtin; rw [← HW9.out]; refine wpList_append_p rfl (o := ⟨some 43, _, _, _, _, _⟩) (.tmp 34) (.tmp 42) rfl w.heap.size _ _ rfl P9.out (some ⟨wr.heap.size, 0, none⟩) 1 1 [(kx, vx)] rfl rfl U9.out.2 SZ.out B9.out.size ?_; intro v4 w4 hown4 hg4; have B4 : Hid (Below w.heap.size w w4) := P9.out.grown B9.out hg4 B9.out.size; obtain ⟨A5, c5, rfl, _, _⟩ := hown4.any; have OW4 := Lib.hid hown4; clear hown4 hg4)
          go_roundw
          case rel => exact ⟨j + 1, acc ++ [(kx, vx)], A5, c5, by omega, by go_num, by rw [List.length_append]; rfl, G2.out, OW4.out, B4.out⟩
          case measure => simp [intOf]; omega
        · have i1 : ¬ (acc.length : Int) < most := by have := HMM.out; omega
          have G2 : Hid (acc = (fromE (l.take (j + 1)) k).take M) := by
            show _ = _
            rw [TF.out, if_neg e, ← SN.out, ← G.out.1, if_neg hM]
          clear e hm TF hM SN
          go_wp2_with fail
          go_roundw
          case rel => exact ⟨j + 1, acc, A', c', by omega, by go_num, rfl, G2.out, G.out.2⟩
          case measure => simp [intOf]; omega
    · have jm : ¬ (j : Int) < (m : Int) := by omega
      have tj : l.take j = l := List.take_of_length_le (by omega)
      have R : Hid (OwnP wr w.heap.size (.slice A' acc.length c') ((fromE l k).take M) ∧ Below w.heap.size w wr) := by
        have h1 := G.out.1
        rw [tj] at h1
        have h2 := G.out.2
        refine ⟨?_, h2.2⟩
        have h3 := h2.1
        rw [← h1]
        exact h3
      clear hm hl tj
      go_wp2_with fail
      go_ret
      exact ⟨_, rfl, R.out⟩
end Go.Proofs.YtldmllmkckklhaaGreatDoor

namespace Go.Proofs.YtldmllmkckklhaaGreatDoor
open Go.RowKit Wal

theorem drop_ne {a b : List En} {j : Nat} (h1 : j < a.length) (h2 : j < b.length) (hne : a[j] ≠ b[j]) : a ≠ b := fun e => by
  subst e
  exact hne rfl
theorem all_eq {a b : List En} (hl : a.length = b.length) (h : ∀ j (h1 : j < a.length) (h2 : j < b.length), a[j] = b[j]) : a = b := List.ext_getElem hl h
theorem below_drewN {B : Nat} {w w' : World} (h : Below B w w') (n : Nat) : Below B w (w'.drewN n) := ⟨h.os, h.tape, h.output, h.size, h.block⟩
set_option maxRecDepth 100000 in
set_option maxHeartbeats 1600000 in
theorem same_any (w : World) (a b : List En) (A B : Option Addr) (c d : Nat) (ha : PAt w A a) (hb : PAt w B b) (ha8 : ∀ e ∈ a, (∀ x ∈ e.1, x < 256) ∧ ∀ x ∈ e.2, x < 256) (hb8 : ∀ e ∈ b, (∀ x ∈ e.1, x < 256) ∧ ∀ x ∈ e.2, x < 256) (hl : a.length ≤ 50000) :
    Calls Tryz.prog 17 #[.slice A a.length c, .slice B b.length d] w fun x w' => x = .returned (.bool (decide (a = b))) ∧ Below w.heap.size w w' := by
  have HA := Lib.hid ha
  have HB := Lib.hid hb
  have A8 := Lib.hid ha8
  have B8 := Lib.hid hb8
  have HL : Hid (a.length ≤ 50000) := hl
  clear ha hb ha8 hb8 hl
  by_cases hlen : a.length = b.length
  · obtain ⟨m, hm⟩ : ∃ m, m = a.length := ⟨_, rfl⟩
    rw [← hlen, ← hm]
    have HM := Lib.hid hm
    have HLN := Lib.hid hlen
    clear hm hlen
    go_enter Tryz.func17, Tryz.ntmps17
    go_wp2_with fail
    go_loopw [5] (fun i wr => ∃ j : Nat, j ≤ m ∧ i = .int .i64 j ∧ Hid ((∀ i (h1 : i < a.length) (h2 : i < b.length), i < j → a[i] = b[i]) ∧ Below w.heap.size w wr)) (fun i _ => m - (intOf i).toNat)
    case atStart => exact ⟨0, by omega, rfl, fun i _ _ h => by omega, Below.refl _ _⟩
    case round =>
      obtain ⟨j, hj, rfl, G⟩ := hrel
      have hm := HM.out
      have hl := HL.out
      have hln := HLN.out
      by_cases hlt : j < m
      · have h1 : j < a.length := by omega
        have h2 : j < b.length := by omega
        have Bd : Hid (Below w.heap.size w wr) := G.out.2
        obtain ⟨g, off, rfl, a0, a1⟩ := (HA.out.below G.out.2).at_ h1
        obtain ⟨g2, off2, rfl, b0, b1⟩ := (HB.out.below G.out.2).at_ h2
        have EA := eq_strB (A8.out _ (List.getElem_mem h1)).1 (B8.out _ (List.getElem_mem h2)).1
        have EB := eq_strB (A8.out _ (List.getElem_mem h1)).2 (B8.out _ (List.getElem_mem h2)).2
        have x0 : ∀ k, (wr.drewN k).cell? ⟨g, off + j * 2, none⟩ = some (.string (strB a[j].1)) := fun _ => a0
        have x1 : ∀ k, (wr.drewN k).cell? ⟨g, off + j * 2 + 1, none⟩ = some (.string (strB a[j].2)) := fun _ => a1
        have y0 : ∀ k, (wr.drewN k).cell? ⟨g2, off2 + j * 2, none⟩ = some (.string (strB b[j].1)) := fun _ => b0
        have y1 : ∀ k, (wr.drewN k).cell? ⟨g2, off2 + j * 2 + 1, none⟩ = some (.string (strB b[j].2)) := fun _ => b1
        have jm : (j : Int) < (m : Int) := by omega
        have lim : (j : Int) ≤ 50000 := by omega
        have PN := pair_ne
        obtain ⟨ka, hka⟩ : ∃ x, x = strB a[j].1 := ⟨_, rfl⟩
        obtain ⟨va, hva⟩ : ∃ x, x = strB a[j].2 := ⟨_, rfl⟩
        obtain ⟨kb, hkb⟩ : ∃ x, x = strB b[j].1 := ⟨_, rfl⟩
        obtain ⟨vb, hvb⟩ : ∃ x, x = strB b[j].2 := ⟨_, rfl⟩
        rw [← hka, ← hkb] at EA
        rw [← hva, ← hvb] at EB
        rw [← hka] at a0 x0
        rw [← hva] at a1 x1
        rw [← hkb] at b0 y0
        rw [← hvb] at b1 y1
        have EE := Lib.hid (And.intro EA EB)
        clear hka hva hkb hvb hm hln EA EB
        go_upto_region 6 with fail
        go_quiet (fail)
        by_cases he : a[j] = b[j]
        · have q1 : (ka.toList == kb.toList) = true := by rw [EE.out.1, he]; simp
          have q2 : (va.toList == vb.toList) = true := by rw [EE.out.2, he]; simp
          have G2 : Hid ((∀ i (h1 : i < a.length) (h2 : i < b.length), i < j + 1 → a[i] = b[i]) ∧ Below w.heap.size w (wr.drewN nq)) := ⟨fun i i1 i2 hi => by
            rcases Nat.lt_or_ge i j with h | h
            · exact G.out.1 i i1 i2 h
            · obtain rfl : i = j := by omega
              exact he, below_drewN G.out.2 nq⟩
          rw [q1, q2]
          clear he q1 q2
          go_wp2_with fail
          go_roundw
          case rel => exact ⟨j + 1, by omega, by go_num, G2.out⟩
          case measure => simp [intOf]; omega
        · have FIN : Hid (decide (a = b) = false) := decide_eq_false (drop_ne h1 h2 he)
          have q : (!ka.toList == kb.toList || !va.toList == vb.toList) = true := by
            rw [EE.out.1, EE.out.2]
            by_cases c1 : a[j].1 = b[j].1
            · have c2 : ¬ a[j].2 = b[j].2 := fun c2 => he (Prod.ext c1 c2)
              simp [c1, c2]
            · simp [c1]
          rw [q]
          clear he q
          go_wp2_with fail
          go_ret
          exact ⟨by rw [FIN.out]; rfl, below_drewN Bd.out nq⟩
      · obtain rfl : j = m := by omega
        have FIN : Hid (decide (a = b) = true) := decide_eq_true (all_eq hln fun i i1 i2 => G.out.1 i i1 i2 (by omega))
        have Bd : Hid (Below w.heap.size w wr) := G.out.2
        clear hm hl hln
        go_wp2_with fail
        go_ret
        exact ⟨by rw [FIN.out]; rfl, Bd.out⟩
  · have FIN : Hid (decide (a = b) = false) := decide_eq_false fun e => hlen (by rw [e])
    have i1 : ¬ (a.length : Int) = (b.length : Int) := by omega
    go_enter Tryz.func17, Tryz.ntmps17
    go_wp2_with fail
    go_ret
    exact ⟨by rw [FIN.out]; rfl, Below.refl _ _⟩
end Go.Proofs.YtldmllmkckklhaaGreatDoor
