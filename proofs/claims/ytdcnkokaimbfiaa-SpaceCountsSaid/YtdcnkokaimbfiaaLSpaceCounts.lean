/-
  P5.3: as many are taken as were taken and not given back, and the two; each block that is told as taken, is: the law answers true for every input, and its arguments read behind the call as before. No condition beside the row's own.
-/
import Derived.Test.YtdcnkokaimbfiaaSp7
import Derived.Test.YtdcnkokaimbfiaaOps
namespace Go.Proofs.Ytdcnkokaimbfiaa.spaceCounts
open Go.ChangeShapes Go.WideShapes Go.ChangeAt Go.RowKit

theorem own : ownKnob Try.prog.godebug = none := by kernel_rfl
theorem laidOut : laidOutB Try.prog = true := by kernel_rfl

theorem cntB_put {t : Nat → Bool} {b : Nat} (hb : t b = false) : ∀ n, b < n → cntB (putB t b true) n = cntB t n + 1
  | 0, h => by omega
  | n + 1, h => by
    unfold cntB
    by_cases e : b = n
    · subst e
      rw [cntB_congr (t := putB t b true) (t' := t) b (fun k hk => by unfold putB; rw [if_neg (by omega)]), hb]
      simp [putB]
    · rw [cntB_put hb n (by omega)]
      have : putB t b true n = t n := by unfold putB; rw [if_neg (by omega)]
      rw [this]
      omega
theorem cntB_rem {t : Nat → Bool} {b : Nat} (hb : t b = true) (n : Nat) (h : b < n) : cntB (putB t b false) n + 1 = cntB t n := by
  have h1 := cntB_put (t := putB t b false) (b := b) (by simp [putB]) n h
  rw [← h1]
  refine cntB_congr n (fun k _ => ?_)
  unfold putB
  split
  · subst_vars; exact hb.symm
  · rfl
theorem cntB_all {t : Nat → Bool} : ∀ n, (∀ b, b < n → t b = true) → cntB t n = n
  | 0, _ => rfl
  | n + 1, h => by unfold cntB; rw [cntB_all n (fun b hb => h b (by omega)), h n (by omega)]; rfl
theorem cntB_lt {t : Nat → Bool} {b : Nat} (hb : t b = false) (n : Nat) (h : b < n) : cntB t n < n := by
  have h1 := cntB_put hb n h
  have h2 := cntB_le (putB t b true) n
  omega
/-- What was taken and not given back: l, in order. -/
structure Inv (t : Nat → Bool) (l : List Nat) (n : Nat) : Prop where
  in_ : ∀ b, t b = (two b || decide (b ∈ l))
  rng : ∀ b ∈ l, 2 ≤ b ∧ b < n
  cnt : cntB t 4096 = 2 + l.length
  nd : l.Pairwise (· ≠ ·)
section
variable {t : Nat → Bool} {l : List Nat} {n b : Nat}
theorem Inv.off (h : Inv t l n) (hn : 2 ≤ n) {k : Nat} (hk : n ≤ k) : t k = false := by
  rw [h.in_, two_f (by omega), decide_eq_false (fun hm => by have := h.rng k hm; omega)]
  rfl
theorem Inv.cntn (h : Inv t l n) (hn : 2 ≤ n) (h9 : n ≤ 4096) : cntB t n = 2 + l.length := by
  rw [← h.cnt]
  exact (cntB_off 4096 h9 (fun b h1 _ => h.off hn h1)).symm
theorem Inv.len (h : Inv t l n) (hn : 2 ≤ n) (h9 : n ≤ 4096) : 2 + l.length ≤ n := by
  rw [← h.cntn hn h9]
  exact cntB_le t n
theorem Inv.full (h : Inv t l n) (hn : 2 ≤ n) (h9 : n ≤ 4096) (hF : FreeOf t two b) (hb : n ≤ b) : l.length + 2 = n := by
  have h1 := cntB_all (t := t) n (fun k hk => by
    have := hF.off k (by omega)
    rw [h.in_] at this ⊢
    cases h2 : two k <;> simp_all)
  have h2 := h.cntn hn h9
  omega
theorem Inv.free (h : Inv t l n) (hn : 2 ≤ n) (h9 : n ≤ 4096) (hF : FreeOf t two b) (hb : b < n) : l.length + 2 < n ∧ Inv (putB t b true) (l ++ [b]) n := by
  have h1 : (t b || two b) = false := by
    rcases hF.on with h1 | h1
    · omega
    · exact h1
  rw [Bool.or_eq_false_iff] at h1
  have h2 := cntB_lt h1.1 n hb
  rw [h.cntn hn h9] at h2
  refine ⟨by omega, fun k => ?_, fun k hk => ?_, ?_, ?_⟩
  · unfold putB
    by_cases e : k = b
    · subst e; simp
    · rw [if_neg e, h.in_]
      congr 1
      exact decide_eq_decide.2 (by simp [e])
  · rcases List.mem_append.1 hk with hk | hk
    · exact h.rng k hk
    · obtain rfl : k = b := by simpa using hk
      refine ⟨?_, hb⟩
      rcases Nat.lt_or_ge k 2 with h3 | h3
      · rw [two_t h3] at h1; cases h1.2
      · exact h3
  · rw [cntB_put h1.1 4096 (by omega), h.cnt, List.length_append]
    rfl
  · refine List.pairwise_append.2 ⟨h.nd, List.pairwise_singleton _ _, fun k hk k2 hk2 => ?_⟩
    obtain rfl : k2 = b := by simpa using hk2
    rintro rfl
    have h3 := h1.1
    rw [h.in_, decide_eq_true hk] at h3
    simp at h3
theorem Inv.back {x : Nat} {r : List Nat} (h : Inv t (x :: r) n) (hn : 2 ≤ n) (h9 : n ≤ 4096) : 2 ≤ x ∧ x < n ∧ t x = true ∧ Inv (putB t x false) r n := by
  have hx : x ∉ r := fun hm => (List.pairwise_cons.1 h.nd).1 x hm rfl
  have h1 := h.rng x (by simp)
  have h2 : t x = true := by rw [h.in_]; simp
  refine ⟨h1.1, h1.2, h2, fun k => ?_, fun k hk => h.rng k (by simp [hk]), ?_, (List.pairwise_cons.1 h.nd).2⟩
  · unfold putB
    by_cases e : k = x
    · subst e
      rw [if_pos rfl, two_f h1.1, decide_eq_false hx]
      rfl
    · rw [if_neg e, h.in_]
      congr 1
      exact decide_eq_decide.2 (by simp [e])
  · have h3 := cntB_rem h2 4096 (by omega)
    rw [h.cnt, List.length_cons] at h3
    omega
end
/-- The slice of what is mine, in memory: a row of the call's own, apart from the pages and the map. -/
structure Mine (w0 w : World) (v : Value) (l : List Nat) (P : PS) (t tm m : Nat) : Prop where
  row : SRow w 3 1 v l.length (needsV l)
  new : ∀ y, v.ownBlock = some y → w0.heap.size ≤ y ∧ y ∉ pfoot P t tm ∧ y ≠ m
theorem Mine.only {w0 w w' : World} {v : Value} {l : List Nat} {P : PS} {t tm m : Nat} {H : List Nat} (h : Mine w0 w v l P t tm m) (k : Only H w w') (hH : ∀ y, v.ownBlock = some y → y ∉ H) : Mine w0 w' v l P t tm m := ⟨h.row.only k hH, h.new⟩
theorem infoI : (Try.prog.info? 3).map (fun i => (i.zero, i.size, i.bytes)) = some (some (.int .i64 0), 1, 8) := by kernel_rfl
theorem run_append_mine (w : World) (ty : TypeId) (v : Value) (l : List Nat) (h : SRow w 3 1 v l.length (needsV l)) (x : Nat) (q c : Nat) (hc : w.cell? ⟨q, 0, none⟩ = some (.int .i64 (x : Int))) (hl : l.length ≤ 4000000000) :
    ∃ v' w', (Builtin.append_ #[58, 58] ty #[v, .slice (some ⟨q, 0, none⟩) 1 c]).run Try.prog w = .ok v' w' ∧ SRow w' 3 1 v' (l ++ [x]).length (needsV (l ++ [x])) ∧ w.grownBy w' v.ownBlock ∧ (∀ y, v'.ownBlock = some y → v.ownBlock = some y ∨ w.heap.size ≤ y) := by
  obtain ⟨i, hi, hz, hsize, hby⟩ := info_parts infoI
  obtain ⟨v', w', h1, h2, h3, h4⟩ := run_append_srow (P := Try.prog) w 58 ty 3 i (.int .i64 0) 1 8 Try.underlying58 hi hz hsize hby rfl (by omega) v l.length (needsV l) h ⟨q, 0, none⟩ 1 c [.int .i64 (x : Int)] rfl
    (fun j u hu => by
      obtain rfl : j = 0 := by
        rcases j with _ | j
        · rfl
        · simp at hu
      have e : Value.int .i64 (x : Int) = u := by simpa using hu
      rw [← e]
      exact hc) (fun u hu => by
        have : u = .int .i64 (x : Int) := by simpa using hu
        rw [this]; rfl) (by simp only [maxLen]; omega) (by omega)
  refine ⟨v', w', h1, ?_, h3, h4⟩
  rw [List.length_append]
  have e : needsV (l ++ [x]) = needsV l ++ [.int .i64 (x : Int)] := by simp [needsV]
  rw [e]
  exact h2
theorem wpList_append_mine {ops : Array Oper} {rest : List Oper} {o : Oper} {a : Act} {Q : Exit → Act → World → Prop} {w : World} (hgd : o.guard = none) (s x : Operand)
    (ho : o.op = .call { callee := .builtin .append, args := #[s, x], argTypes := #[58, 58] }) (v : Value) (l : List Nat) (hs : a.eval s = v) (hr : SRow w 3 1 v l.length (needsV l)) (q c n : Nat) (hx : a.eval x = .slice (some ⟨q, 0, none⟩) 1 c)
    (hc : w.cell? ⟨q, 0, none⟩ = some (.int .i64 (n : Int))) (hl : l.length ≤ 4000000000)
    (h : ∀ v' w', SRow w' 3 1 v' (l ++ [n]).length (needsV (l ++ [n])) → w.grownBy w' v.ownBlock → (∀ y, v'.ownBlock = some y → v.ownBlock = some y ∨ w.heap.size ≤ y) → wpList Try.prog ops Q rest (a.put o.dst v') w') : wpList Try.prog ops Q (o :: rest) a w := by
  refine wpList_plain hgd fun _ hK => ?_
  obtain ⟨v', w', h1, h2, h3, h4⟩ := run_append_mine w o.type v l hr n q c hc hl
  unfold Oper.wp execOp
  simp only [ho, resolve, invoke, builtin, Sem.run_bind, Sem.run_pure, Result.andThen_ok, List.map_toArray, List.map_cons, List.map_nil, hs, hx, h1]
  exact hK _ _ (h v' w' h2 h3 h4)
theorem besides {w0 w w' : World} {P : PS} {t tm : Nat} {f : Nat → Option (List Nat)} {H : List Nat} (h : Own w0 w P t tm f) (ho : Only H w w') (hH : ∀ x ∈ H, w0.heap.size ≤ x ∧ x ∉ pfoot P t tm) : Own w0 w' P t tm f :=
  ⟨h.pages.only ho (fun x hx hm => (hH x hm).2 hx), h.below.trans (ho.below h.below.size (fun x hx => (hH x hx).1)), h.new⟩
set_option maxRecDepth 100000 in
set_option maxHeartbeats 3200000 in
theorem walk (x : Nat) (hx : x < 256) (A : Option Addr) (N c : Nat) (l : List Bool) (w : World) (hl : Bls w A N l) (hN : N ≤ 9223372036854775807) :
    Calls Try.prog 7 #[.int .u8 (x : Int), .slice A N c] w fun e w' => e = .returned (.bool true) ∧ Below w.heap.size w w' := by
  have HL := Lib.hid hl
  obtain ⟨n, hn⟩ : ∃ n, n = 2 + x := ⟨_, rfl⟩
  have en : (2 : Int) + (x : Int) = (n : Int) := by omega
  have hn2 : 2 ≤ n := by omega
  have hn9 : n ≤ 257 := by omega
  have hni : (n : Int) ≤ 257 := by omega
  have hni2 : (2 : Int) ≤ (n : Int) := by omega
  have EN := Lib.hid en
  have hN9 : (N : Int) ≤ 9223372036854775807 := by omega
  clear hl hn en
  go_enter Try.func7, Try.ntmps7
  go_wp2_with fail
  refine (fixed_any _).mono ?_
  rintro e w0 ⟨rfl, hb0⟩
  have B0 := Lib.hid hb0
  have PG := Lib.hid (pages_any w0 n (by omega) (by omega))
  clear hb0
  go_wp2_with fail
  rw [EN.out]
  refine PG.out.mono ?_
  rintro e w1 ⟨P, t, tm, rfl, hp, _, _, hb, hnew⟩
  have W1 : Hid (Own w w1 P t tm (fun _ => none)) := ⟨hp, B0.out.trans (hb.mono B0.out.size), fun z hz => Nat.le_trans B0.out.size (hnew z hz)⟩
  have MK := Lib.hid (smake_any w1 P t tm _ n hp (by omega))
  clear hp hb hnew PG B0
  go_wp2_with fail
  refine MK.out.mono ?_
  rintro e w2 ⟨rfl, l1, hl1, hp2, ho2⟩
  have W2 := Lib.hid (W1.out.wrote hp2 ho2)
  have LD := Lib.hid (sload_ok w2 P t tm _ n l1 two hp2 hl1 (got_upd _ _ _) (by omega) (made_ok n hn2))
  clear MK W1 hp2 ho2 hl1
  go_wp2_with fail
  refine LD.out.mono ?_
  rintro e w3 ⟨m, rfl, hp3, ho3, hm3, hM3⟩
  have W3 := Lib.hid (W2.out.read hp3 ho3)
  have MM : Hid (w.heap.size ≤ m ∧ m ∉ pfoot P t tm) := ⟨Nat.le_trans W2.out.below.size hm3, W2.out.far hm3⟩
  have M3 := Lib.hid hM3
  clear LD W2 hp3 ho3 hm3 hM3
  go_wp2_with fail
  go_loopw [10, 11] (fun mv iv wr => ∃ (i : Nat) (tt : Nat → Bool) (mine : List Nat), i ≤ N ∧ iv = .int .i64 (i : Nat) ∧ Own w wr P t tm (upd (fun _ => none) 0 l1) ∧ MapOf wr m n tt two ∧ Mine w wr mv mine P t tm m ∧ Inv tt mine n) (fun _ iv _ => N - (intOf iv).toNat)
  case atStart => exact ⟨0, two, [], by omega, rfl, W3.out, M3.out, ⟨SRow.nil _ _ _, fun y hy => by cases hy⟩, ⟨(fun b => by simp), (fun b hb => by simp at hb), cnt_two, List.Pairwise.nil⟩⟩
  case round =>
    obtain ⟨i, tt, mine, hi, rfl, hW, hMap, hMine, hInv⟩ := hrel
    have WW := Lib.hid hW
    have MP := Lib.hid hMap
    have MI := Lib.hid hMine
    have IV := Lib.hid hInv
    obtain ⟨Am, cm, hmv⟩ := hMine.row.form
    subst hmv
    have hlen := hInv.len hn2 (by omega)
    clear hW hMap hMine hInv W3 M3
    by_cases hlt : i < N
    · have hlt' : (i : Int) < (N : Int) := by omega
      obtain ⟨g, off, rfl, hg, hcell⟩ := HL.out.2 (by omega)
      have c0 : wr.cell? ⟨g, off + i, none⟩ = some (.bool (l.getD i false)) := (WW.out.below.cell (p := ⟨g, off + i, none⟩) hg).trans (hcell i hlt)
      obtain ⟨bit, hbit⟩ : ∃ bit, bit = l.getD i false := ⟨_, rfl⟩
      rw [← hbit] at c0
      clear hbit hcell
      cases bit with
      | true =>
        have TK := Lib.hid (take_any wr m n _ two MP.out (by omega))
        go_wp2_with fail
        refine TK.out.mono ?_
        rintro e w4 ⟨ho4, b, hF, hres⟩
        have W4 := Lib.hid (WW.out.beside ho4 MM.out.1 MM.out.2)
        have MI4 := Lib.hid (MI.out.only ho4 (fun y hy hm => (MI.out.new y hy).2.2 (by simpa using hm)))
        obtain ⟨hge, rfl, hM4⟩ | ⟨hb, rfl, hM4⟩ := hres
        · have hfull := IV.out.full hn2 (by omega) hF hge
          have hfi : (mine.length : Int) = (n : Int) - 2 := by omega
          have M4 := Lib.hid hM4
          have US := used_any w4 m n tt two hM4
          rw [IV.out.cnt] at US
          have US := Lib.hid US
          have e2 : ((2 + mine.length : Nat) : Int) = 2 + (mine.length : Int) := by omega
          rw [e2] at US
          clear TK WW MP MI ho4 hF hM4 hfull e2
          go_wp2_with fail
          refine US.out.mono ?_
          rintro e w' ⟨rfl, rfl⟩
          go_wp2_with fail
          go_roundw
          case rel => exact ⟨i + 1, tt, mine, by omega, by go_num, W4.out, M4.out, MI4.out, IV.out⟩
          case measure => simp [intOf]; omega
        · obtain ⟨hlt2, hInv2⟩ := IV.out.free hn2 (by omega) hF hb
          have IV2 := Lib.hid hInv2
          have hne : ¬ (mine.length : Int) = (n : Int) - 2 := by omega
          have hne2 : ((mine.length : Int) == (n : Int) - 2) = false := by simpa using hne
          have M4 := Lib.hid hM4
          have BA : Hid (Below w4.heap.size w4 (w4.alloc (.cells #[.int .i64 (b : Int)] 3))) := (Below.refl _ _).alloc (Nat.le_refl _) _
          have QA : Hid ((w4.alloc (.cells #[.int .i64 (b : Int)] 3)).cell? ⟨w4.heap.size, 0, none⟩ = some (.int .i64 (b : Int))) := (Held.new w4 3 #[.int .i64 (b : Int)] rfl).cell 0
          have WA := Lib.hid (W4.out.under BA.out)
          have MA := Lib.hid (M4.out.under BA.out)
          have IA := Lib.hid (MI4.out.only (Only.of_below (F := []) BA.out) (fun _ _ => by simp))
          have LA : Hid (mine.length ≤ 4000000000) := by show _ ≤ _; omega
          obtain ⟨L5, hL5⟩ : ∃ L5, L5 = (mine ++ [b]).length := ⟨_, rfl⟩
          have EL := Lib.hid hL5
          have cnt5 := IV2.out.cnt
          rw [← hL5] at cnt5
          have C5 := Lib.hid cnt5
          have hL59 : (L5 : Int) ≤ 257 := by
            have := IV2.out.len hn2 (by omega)
            omega
          clear TK WW MP MI ho4 hF hM4 hInv2 MI4 M4 W4 hL5 cnt5 BA
          go_wp2_with (refine wpList_append_mine rfl (o := ⟨some 66, _, _, _, _, _⟩) (.tmp 63) (.tmp 65) rfl (.slice Am mine.length cm) mine rfl IA.out.row w4.heap.size 1 b rfl QA.out LA.out ?_; intro v5 w5 r1 r2 r3; have R1 := Lib.hid r1; have R2 := Lib.hid r2; have R3 := Lib.hid r3; obtain ⟨A5, c5, hv5⟩ := r1.form; rw [← EL.out] at hv5; subst hv5; clear r1 r2 r3)
          have ho5 : Only (Value.slice Am mine.length cm).ownBlock.toList (w4.alloc (.cells #[.int .i64 (b : Int)] 3)) w5 := (Only.refl _ _).grown R2.out (fun k hk => .inl (by simp [hk]))
          have W5 := Lib.hid (besides WA.out ho5 (fun y hy => by
            have h9 := IA.out.new y (by simpa using hy)
            exact ⟨h9.1, h9.2.1⟩))
          have M5 : Hid (MapOf w5 m n (putB tt b true) two) := MA.out.only ho5 (fun hy => (IA.out.new m (by simpa using hy)).2.2 rfl)
          have MI5 : Hid (Mine w w5 (.slice A5 L5 c5) (mine ++ [b]) P t tm m) := ⟨R1.out, fun y hy => by
            rcases R3.out y hy with h9 | h9
            · exact IA.out.new y h9
            · have h10 := WA.out.below.size
              have h11 := MA.out.lt
              exact ⟨by omega, WA.out.far h9, by omega⟩⟩
          have US := used_any w5 m n _ two M5.out
          rw [C5.out, show ((2 + L5 : Nat) : Int) = 2 + (L5 : Int) by omega] at US
          have US := Lib.hid US
          clear ho5 WA MA IA R1 R2 R3 QA C5
          refine US.out.mono ?_
          rintro e w' ⟨rfl, rfl⟩
          go_wp2_with fail
          go_roundw
          case rel => exact ⟨i + 1, _, mine ++ [b], by omega, by go_num, W5.out, M5.out, MI5.out, IV2.out⟩
          case measure => simp [intOf]; omega
      | false =>
        cases mine with
        | nil =>
          have US := used_any wr m n tt two MP.out
          rw [IV.out.cnt] at US
          have US := Lib.hid US
          go_wp2_with fail
          refine US.out.mono ?_
          rintro e w' ⟨rfl, rfl⟩
          go_wp2_with fail
          go_roundw
          case rel => exact ⟨i + 1, tt, [], by omega, by go_num, WW.out, MP.out, MI.out, IV.out⟩
          case measure => simp [intOf]; omega
        | cons z r =>
          obtain ⟨hz1, hz2, hz3, hInv2⟩ := IV.out.back hn2 (by omega)
          have IV2 := Lib.hid hInv2
          obtain ⟨g2, off2, rfl, hg2, hcell2⟩ := MI.out.row.at_ rfl (by simp)
          have c2 : wr.cell? ⟨g2, off2, none⟩ = some (.int .i64 (z : Int)) := by
            have := hcell2 0 (.int .i64 (z : Int)) rfl
            rwa [Nat.add_zero] at this
          have hgm : g2 ≠ m := (MI.out.new g2 rfl).2.2
          have hlz : (0 : Int) < (((z :: r).length : Nat) : Int) := by simp
          have FR := Lib.hid (free_any wr m n tt two (z : Int) MP.out (by omega))
          clear hcell2 hInv2
          go_wp2_with fail
          refine FR.out.mono ?_
          rintro e w4 ⟨ho4, hy, _⟩
          obtain ⟨rfl, hM4⟩ := hy ⟨by omega, by omega, by rw [Int.toNat_natCast]; exact hz3⟩
          rw [Int.toNat_natCast] at hM4
          have W4 := Lib.hid (WW.out.beside ho4 MM.out.1 MM.out.2)
          have MI4 := Lib.hid (MI.out.only ho4 (fun y hy hm => (MI.out.new y hy).2.2 (by simpa using hm)))
          have c3 : w4.cell? ⟨g2, off2, none⟩ = some (.int .i64 (z : Int)) := (ho4.cell (p := ⟨g2, off2, none⟩) hg2 (by simpa using hgm)).trans c2
          have FR2 := Lib.hid (free_any w4 m n _ two (z : Int) hM4 (by omega))
          clear FR WW MP MI ho4 hy hM4 c2
          go_wp2_with fail
          refine FR2.out.mono ?_
          rintro e w5 ⟨ho5, _, hno⟩
          obtain ⟨rfl, hM5⟩ := hno (fun h => by
            have h9 := h.2.2
            rw [Int.toNat_natCast] at h9
            simp [putB] at h9)
          have W5 := Lib.hid (W4.out.beside ho5 MM.out.1 MM.out.2)
          have MI5 := Lib.hid (MI4.out.only ho5 (fun y hy hm => (MI4.out.new y hy).2.2 (by simpa using hm)))
          have M5 := Lib.hid hM5
          have US := used_any w5 m n _ two hM5
          rw [IV2.out.cnt] at US
          have US := Lib.hid US
          have hcap : (z :: r).length ≤ cm := by
            obtain ⟨_, h8⟩ := MI5.out.row
            rcases h8 with ⟨h9, _⟩ | ⟨_, _, cap, _, _, h9, _, _, h10, _⟩
            · cases h9
            · injection h9 with _ _ h9
              omega
          have HCAP := Lib.hid hcap
          clear FR2 W4 MI4 ho5 hno hM5 c3 hcap
          by_cases hcm : cm = 1
          · subst hcm
            have hr0 : r = [] := by
              have := HCAP.out
              simp only [List.length_cons] at this
              exact List.eq_nil_of_length_eq_zero (by omega)
            subst hr0
            have MI6 : Hid (Mine w w5 (.slice (some ⟨g2, off2, none⟩) 0 0) [] P t tm m) := ⟨MI5.out.row.tail', fun y hy => MI5.out.new y hy⟩
            go_wp2_with fail
            refine US.out.mono ?_
            rintro e w' ⟨rfl, rfl⟩
            go_wp2_with fail
            go_roundw
            case rel => exact ⟨i + 1, _, [], by omega, by go_num, W5.out, M5.out, MI6.out, IV2.out⟩
            case measure => simp [intOf]; omega
          · have MI6 : Hid (Mine w w5 (.slice (some ⟨g2, off2 + 1, none⟩) r.length (cm - 1)) r P t tm m) := ⟨MI5.out.row.tail (k := 1) (by simp), fun y hy => MI5.out.new y hy⟩
            have e2 : ((2 + r.length : Nat) : Int) = 2 + (r.length : Int) := by omega
            rw [e2] at US
            clear e2
            have hr9 : (r.length : Int) ≤ 257 := by
              simp only [List.length_cons] at hlen
              omega
            have hbe : ((2 + (r.length : Int)) != (2 + (r.length : Int))) = false := by simp
            go_wp2_with fail
            refine US.out.mono ?_
            rintro e w' ⟨rfl, rfl⟩
            go_wp2_with fail
            go_roundw
            case rel => exact ⟨i + 1, _, r, by omega, by go_num, W5.out, M5.out, MI6.out, IV2.out⟩
            case measure => simp [intOf]; omega
    · obtain rfl : i = N := by omega
      have hlen9 : (mine.length : Int) ≤ 257 := by omega
      obtain ⟨wo, rfl⟩ : ∃ wo, wo = wr := ⟨wr, rfl⟩
      go_wp2_with fail
      go_loopw [14] (fun jv wq => ∃ j : Nat, j ≤ mine.length ∧ jv = .int .i64 (j : Nat) ∧ ∃ q, wq = wo.drewN q) (fun jv _ => mine.length - (intOf jv).toNat)
      case atStart => exact ⟨0, by omega, rfl, 0, rfl⟩
      case round =>
        obtain ⟨j, hj, rfl, q, hq⟩ := hrel
        have HQ := Lib.hid hq
        have HB := fun (b : Int) (W : World) (q : Nat) (hW : W = wo.drewN q) => mhas_any W m n tt two b (by rw [hW]; exact MP.out.drewN q) (by omega)
        have HB := Lib.hid HB
        by_cases hlt2 : j < mine.length
        · have hlt2' : (j : Int) < (mine.length : Int) := by omega
          obtain ⟨g2, off2, rfl, hg2, hcell2⟩ := MI.out.row.at_ rfl (by omega)
          have hz : mine[j]? = some mine[j] := List.getElem?_eq_getElem hlt2
          obtain ⟨z, hzz⟩ : ∃ z, z = mine[j] := ⟨_, rfl⟩
          rw [← hzz] at hz
          have c2 : wr.cell? ⟨g2, off2 + j, none⟩ = some (.int .i64 (z : Int)) := by
            rw [hq]
            exact hcell2 j _ (by unfold needsV; rw [List.getElem?_map, hz]; rfl)
          have hmem : z ∈ mine := List.mem_of_getElem? hz
          have hzr := IV.out.rng z hmem
          have H1 := HB.out (z : Int) wr q hq
          rw [Int.toNat_natCast, IV.out.in_ z, decide_eq_true hmem, Bool.or_true, decide_eq_true (show 0 ≤ (z : Int) ∧ (z : Int) < (n : Int) by omega)] at H1
          have H1 := Lib.hid H1
          clear hcell2 hz hzz hmem hq
          go_wp2_with fail
          refine H1.out.mono ?_
          rintro e w4 ⟨rfl, q4, rfl⟩
          go_wp2_with fail
          go_roundw
          case rel => exact ⟨j + 1, by omega, by go_num, _, by rw [HQ.out]; exact World.drewN_drewN _ _ _⟩
          case measure => simp [intOf]; omega
        · obtain rfl : j = mine.length := by omega
          have H0 := HB.out 0 wr q hq
          rw [show (0 : Int).toNat = 0 from rfl, IV.out.in_ 0, show two 0 = true from rfl, Bool.true_or, decide_eq_true (show 0 ≤ (0 : Int) ∧ (0 : Int) < (n : Int) by omega)] at H0
          have H0 := Lib.hid H0
          clear hq
          go_wp2_with fail
          refine H0.out.mono ?_
          rintro e w4 ⟨rfl, q4, hw4⟩
          have hw5 : w4 = wo.drewN (q + q4) := by rw [hw4, HQ.out]; exact World.drewN_drewN _ _ _
          have H1 := HB.out 1 w4 _ hw5
          rw [show (1 : Int).toNat = 1 from rfl, IV.out.in_ 1, show two 1 = true from rfl, Bool.true_or, decide_eq_true (show 0 ≤ (1 : Int) ∧ (1 : Int) < (n : Int) by omega)] at H1
          have H1 := Lib.hid H1
          have HW5 := Lib.hid hw5
          clear hw4 hw5 H0
          go_wp2_with fail
          refine H1.out.mono ?_
          rintro e w6 ⟨rfl, q6, hw6⟩
          have B6 : Hid (Below w.heap.size w w6) := by
            rw [hw6, HW5.out]
            exact ((WW.out.under (under_drewN _ _)).under (under_drewN _ _)).below
          clear hw6
          go_wp2_with fail
          go_ret
          exact ⟨rfl, B6.out⟩
set_option maxRecDepth 100000 in
theorem opens {H : Type} {enc : TypeId × Value → H} {W : World} {base : Nat} {args : Array Value} {ds : List (DataW H)} {p : List MemPlace}
    (hval : ∀ (j : Nat) t v, Try.f7.params[j]? = some t → args[j]? = some v → Value.okWide Try.prog W .any base t v)
    (hA : DataW.TrodAll enc Try.prog W 0 (fun _ => true) true Try.f7.params.toList args.toList ds p) (hlt : ∀ x ∈ p, x.block < W.heap.size) (hsz : (DataW.weightsEach Try.prog Try.f7.params.toList ds).all (· ≤ reachBytes) = true) :
    Calls Try.prog 7 args W fun e W' => e = .returned (.bool true) ∧ Below W.heap.size W W' := by
  rw [Try.params7] at hA hval hsz
  obtain ⟨v0, vs0, d0, ds0, p0, q0, hargs, rfl, rfl, h0, r0⟩ := trodAll_cons hA
  obtain ⟨v1, vs1, d1, ds1, p1, q1, rfl, rfl, rfl, h1, r1⟩ := trodAll_cons r0
  obtain ⟨rfl, rfl, rfl⟩ := trodAll_nil r1
  obtain rfl : args = #[v0, v1] := by cases args; simp_all
  obtain ⟨x, rfl, hx⟩ := open_u8 (hval 0 5 v0 rfl rfl) h0
  obtain ⟨A, N, c, l, rfl, hb, hN, _, _⟩ := open_keep (hval 1 44 v1 rfl rfl) h1
  exact walk x hx A N c l W hb hN

set_option maxRecDepth 100000 in
theorem lifted (os : Os) (started : os.Started) (H : Type) (enc : TypeId × Value → H) :
    ReturnsInHanded {} Try.checked os 7 .any (Rows.spaceCountsSpec.pre6 enc Try.prog Try.f7 Rows.spaceCountsRow.domain false) (Rows.spaceCountsSpec.post enc Try.prog Try.f7 false true false false) := by
  refine returnsInHanded_of_change_sized (C := Try.checked) own started (by kernel_rfl) Try.func7
    (ChangeSpec.witness6 (enc := enc) (C := Try.checked) false ⟨#[], #[.int .u8 0, .slice none 0 0], []⟩ 8 (by kernel_rfl) (by kernel_rfl) (by kernel_rfl) (by kernel_rfl)) ?_
  intro W base args ds gs before hval hW _ hsz0 _
  refine law_calls laidOut Try.underlying4 rfl (by rw [Try.params7]; exact of_decide_eq_true (by kernel_rfl)) rfl (fun ds h => by match ds, h with | [_, _], _ => rfl) hW ?_
  obtain ⟨rfl, p, hA, hlt⟩ := law_args rfl hW
  have hsz : (DataW.weightsEach Try.prog (Try.f7.params.toList ++ []) (ds ++ [])).all (· ≤ reachBytes) = true := hsz0
  rw [List.append_nil, List.append_nil] at hsz
  exact opens hval hA hlt hsz

theorem over : Rows.spaceCountsRow.holds Try.pinned (OpenSpec.ofChange Rows.spaceCountsSpec) :=
  OpenClaim.holds_of_wide 7 Try.f7 rfl rfl rfl rfl rfl rfl rfl ⟨rfl, rfl, rfl, rfl, rfl⟩ rfl rfl rfl rfl rfl (by kernel_rfl) Try.func7 (by kernel_rfl)
    (of_decide_eq_true (by kernel_rfl)) (by unfold Func.isWrapper; first | (rw [if_pos (by decide +kernel)]; kernel_rfl) | (rw [if_neg (by decide +kernel)]; exact ⟨rfl, rfl⟩))
    (fun os started H enc _ => lifted os started H enc)

theorem proved : Rows.SpaceCountsSaid := over

end Go.Proofs.Ytdcnkokaimbfiaa.spaceCounts
