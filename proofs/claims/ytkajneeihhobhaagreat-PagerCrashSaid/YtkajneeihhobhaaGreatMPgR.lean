/-
  docketref04: the contract of find. · docketref04: commits in memory, and the contract of At. · docketref04: a Put is appended to a row of the call's own. · docketref04: the contract of a transaction's Write.
-/
import Derived.Test.YtkajneeihhobhaaGreatMPgZ
import Derived.Test.YtkajneeihhobhaaGreatMPgN
namespace Go.Proofs.YtkajneeihhobhaaGreat
open Go.RowKit Go.Maps Wal Pgr

/-- What the last Put of block b says. -/
def findL (l : List (Nat × List Nat)) (b : Int) : Option (List Nat) := l.foldl (fun acc p => if (p.1 : Int) = b then some p.2 else acc) none
theorem findL_snoc (l : List (Nat × List Nat)) (p : Nat × List Nat) (b : Int) : findL (l ++ [p]) b = if (p.1 : Int) = b then some p.2 else findL l b := by simp [findL]
def strO (o : Option (List Nat)) : ByteArray := match o with
  | none => ⟨#[]⟩
  | some l => strB l
set_option maxRecDepth 100000 in
theorem pfind_any (w : World) (base : Nat) (A : Option Addr) (n c : Nat) (L : List (Nat × List Nat)) (b : Int) (hn : n = L.length) (hL : n ≤ 4611686018427387904) (h : w.ownsRow base 109 2 (.slice A n c) n (waitCells L)) :
    Calls Tryz.prog 58 #[.slice A n c, .int .i64 b] w fun e w' => e = .returned (.tuple #[.string (strO (findL L b)), .bool (findL L b).isSome]) ∧ w = w' := by
  have H := Lib.hid h
  have HN := Lib.hid hn
  clear h hn
  go_enter Tryz.func58, Tryz.ntmps58
  go_wp2_with fail
  go_loop [6, 7, 8] (fun sv ov iv => ∃ k : Nat, k ≤ n ∧ iv = .int .i64 (k : Nat) ∧ sv = .string (strO (findL (L.take k) b)) ∧ ov = .bool (findL (L.take k) b).isSome) (fun _ _ iv => n - (intOf iv).toNat)
  case atStart => exact ⟨0, by omega, rfl, rfl, rfl⟩
  case round =>
    obtain ⟨k, hk, rfl, rfl, rfl⟩ := hrel
    by_cases hlt : k < n
    · have hlt' : (k : Int) < (n : Int) := by omega
      have hk0 : (0 : Int) ≤ (k : Int) := by omega
      have hkl : k < L.length := by have := HN.out; omega
      obtain ⟨p, hp⟩ : ∃ p, L[k]? = some p := ⟨_, List.getElem?_eq_getElem hkl⟩
      obtain ⟨g, rfl⟩ : ∃ g, A = some ⟨g, 0, none⟩ := by
        rcases H.out.2 with ⟨h1, _⟩ | ⟨g', cap, cur, h1, _⟩
        · injection h1 with _ h2 _
          omega
        · injection h1 with h1 _ _
          exact ⟨g', h1⟩
      have hc := waitCells_at L k p hp
      have x0 : w.cell? ⟨g, k * 2, none⟩ = some (.int .i64 (p.1 : Int)) := (H.out.cellAt (k * 2) (by omega)).trans hc.1
      have x1 : w.cell? ⟨g, k * 2 + 1, none⟩ = some (.string (strB p.2)) := (H.out.cellAt (k * 2 + 1) (by omega)).trans hc.2
      have ET : Hid (findL (L.take (k + 1)) b = if (p.1 : Int) = b then some p.2 else findL (L.take k) b) := by
        show _ = _
        rw [List.take_add_one, hp]
        exact findL_snoc _ p b
      obtain ⟨s, hs⟩ : ∃ s, s = strO (findL (L.take k) b) := ⟨_, rfl⟩
      obtain ⟨o, ho⟩ : ∃ o, o = (findL (L.take k) b).isSome := ⟨_, rfl⟩
      have HS := Lib.hid hs
      have HO := Lib.hid ho
      rw [← hs, ← ho]
      obtain ⟨y, hy⟩ : ∃ y, y = strB p.2 := ⟨_, rfl⟩
      have HY := Lib.hid hy
      rw [← hy] at x1
      clear hs ho hy hp hc hkl
      by_cases he : (p.1 : Int) = b
      · have E2 : Hid (findL (L.take (k + 1)) b = some p.2) := by show _ = _; rw [ET.out, if_pos he]
        clear ET
        subst he
        go_wp2_with fail
        go_round
        case rel => exact ⟨k + 1, by omega, by go_num, by rw [E2.out, HY.out]; rfl, by rw [E2.out]; rfl⟩
        case measure => simp [intOf]; omega
      · have E2 : Hid (findL (L.take (k + 1)) b = findL (L.take k) b) := by show _ = _; rw [ET.out, if_neg he]
        clear ET
        go_wp2_with fail
        go_round
        case rel => exact ⟨k + 1, by omega, by go_num, by rw [E2.out, HS.out], by rw [E2.out, HO.out]⟩
        case measure => simp [intOf]; omega
    · obtain rfl : k = n := by omega
      have E : Hid (L.take k = L) := by show _ = _; rw [HN.out, List.take_length]
      rw [E.out]
      obtain ⟨s, hs⟩ : ∃ s, s = strO (findL L b) := ⟨_, rfl⟩
      obtain ⟨o, ho⟩ : ∃ o, o = (findL L b).isSome := ⟨_, rfl⟩
      have HS := Lib.hid hs
      have HO := Lib.hid ho
      rw [← hs, ← ho]
      clear hs ho
      go_wp2_with fail
      go_ret2
      exact ⟨by rw [← HS.out, ← HO.out]; rfl, rfl⟩
end Go.Proofs.YtkajneeihhobhaaGreat

namespace Go.Proofs.YtkajneeihhobhaaGreat
open Go.RowKit Go.Maps Wal Pgr

/-- Commits of the call's own, each on a row of its own. -/
structure PutsAt (w : World) (base : Nat) (v : Value) (vs : List Value) (Ls : List (List (Nat × List Nat))) : Prop where
  row : w.ownsRow base 41 1 v Ls.length vs
  each : ∀ (k : Nat) (u : Value) (L : List (Nat × List Nat)), vs[k]? = some u → Ls[k]? = some L → L.length ≤ 4611686018427387904 ∧ w.ownsRow base 109 2 u L.length (waitCells L)
theorem PutsAt.under {w w' : World} {base : Nat} {v : Value} {vs : List Value} {Ls : List (List (Nat × List Nat))} (h : PutsAt w base v vs Ls) (k : Below w.heap.size w w') : PutsAt w' base v vs Ls :=
  ⟨(Only.of_below (F := []) k).row h.row (fun _ _ hx => by cases hx), fun i u L h1 h2 => ⟨(h.each i u L h1 h2).1, (Only.of_below (F := []) k).row (h.each i u L h1 h2).2 (fun _ _ hx => by cases hx)⟩⟩
/-- Block b behind commits. -/
def atL (Ls : List (List (Nat × List Nat))) (b : Int) : List Nat := Ls.foldl (fun z L => (findL L b).getD z) (sec [])
theorem atL_snoc (Ls : List (List (Nat × List Nat))) (L : List (Nat × List Nat)) (b : Int) : atL (Ls ++ [L]) b = (findL L b).getD (atL Ls b) := by simp [atL]
set_option maxRecDepth 100000 in
set_option maxHeartbeats 1600000 in
theorem pat_any (w : World) (r base bn rg : Nat) (v : Value) (vs : List Value) (Ls : List (List (Nat × List Nat))) (b kk : Int) (hr : Held w r 35 #[.int .i64 (bn : Int), .int .i64 (rg : Int), v]) (hv : PutsAt w base v vs Ls) (hL : Ls.length ≤ 4611686018427387904) (hk : (Ls.length : Int) ≤ kk) :
    Calls Tryz.prog 35 #[.pointer (some ⟨r, 0, none⟩), .int .i64 b, .int .i64 kk] w fun e w' => e = .returned (.string (strB (atL Ls b))) ∧ Below w.heap.size w w' := by
  obtain ⟨A, c, rfl⟩ := pslice hv.row
  have e0 : strB [] = ⟨#[]⟩ := rfl
  have FU := pfull_any w [] (fun _ h => by cases h) (by simp)
  rw [e0] at FU
  have FU := Lib.hid FU
  clear e0
  have R := Lib.hid hr
  have V := Lib.hid hv
  obtain ⟨n, hn⟩ : ∃ n, n = Ls.length := ⟨_, rfl⟩
  have HN := Lib.hid hn
  have hk' : (n : Int) ≤ kk := by omega
  have hn' : (n : Int) ≤ 4611686018427387904 := by omega
  rw [← hn] at R
  clear hr hv hn hL hk
  go_enter Tryz.func35, Tryz.ntmps35
  go_wp2_with fail
  refine FU.out.mono ?_
  rintro e w1 ⟨rfl, hb1⟩
  have B1 := Lib.hid hb1
  have R1 := Lib.hid (Held.only R.out (Only.of_below (F := []) hb1) (by simp))
  have V1 := Lib.hid (V.out.under hb1)
  clear hb1 FU R V
  go_wp2_with fail
  go_loop [7, 8] (fun sv iv => ∃ k : Nat, k ≤ n ∧ iv = .int .i64 (k : Nat) ∧ sv = .string (strB (atL (Ls.take k) b))) (fun _ iv => n - (intOf iv).toNat)
  case atStart => exact ⟨0, by omega, rfl, rfl⟩
  case round =>
    obtain ⟨k, hk, rfl, rfl⟩ := hrel
    have r2 : w1.cell? ⟨r, 2, none⟩ = some (.slice A n c) := R1.out.cell 2
    obtain ⟨s, hs⟩ : ∃ s, s = strB (atL (Ls.take k) b) := ⟨_, rfl⟩
    have HS := Lib.hid hs
    rw [← hs]
    by_cases hlt : k < n
    · have hlt' : (k : Int) < (n : Int) := by omega
      have hlk : (k : Int) < kk := by omega
      have hk0 : (0 : Int) ≤ (k : Int) := by omega
      have hkl : k < Ls.length := by have := HN.out; omega
      obtain ⟨L, hLk⟩ : ∃ L, Ls[k]? = some L := ⟨_, List.getElem?_eq_getElem hkl⟩
      have hvl : vs.length = Ls.length := by have := V1.out.row.1; omega
      obtain ⟨u, hu⟩ : ∃ u, vs[k]? = some u := ⟨_, List.getElem?_eq_getElem (by omega)⟩
      obtain ⟨hL4, hE⟩ := V1.out.each k u L hu hLk
      obtain ⟨A1, c1, rfl⟩ := pslice hE
      obtain ⟨n1, hn1⟩ : ∃ n1, n1 = L.length := ⟨_, rfl⟩
      have hrow := V1.out.row
      rw [← HN.out] at hrow
      obtain ⟨g, rfl⟩ : ∃ g, A = some ⟨g, 0, none⟩ := by
        rcases hrow.2 with ⟨h1, _⟩ | ⟨g', cap, cur, h1, _⟩
        · injection h1 with _ h2 _
          omega
        · injection h1 with h1 _ _
          exact ⟨g', h1⟩
      have x1 : w1.cell? ⟨g, k, none⟩ = some (.slice A1 n1 c1) := by
        rw [hrow.cellAt k (by omega), hu, hn1]
      rw [← hn1] at hE hL4
      have FI := Lib.hid (pfind_any w1 base A1 n1 c1 L b hn1 hL4 hE)
      have ET : Hid (atL (Ls.take (k + 1)) b = (findL L b).getD (atL (Ls.take k) b)) := by
        show _ = _
        rw [List.take_add_one, hLk]
        exact atL_snoc _ L b
      clear hs hkl hLk hvl hu hL4 hE hn1 hrow
      cases hf : findL L b with
      | none =>
        rw [hf] at FI ET
        have E2 : Hid (atL (Ls.take (k + 1)) b = atL (Ls.take k) b) := ET.out
        clear hf ET
        go_wp2_with fail
        refine FI.out.mono ?_
        rintro e w2 ⟨rfl, rfl⟩
        go_wp2_with fail
        go_round
        case rel => exact ⟨k + 1, by omega, by go_num, by rw [E2.out, HS.out]⟩
        case measure => simp [intOf]; omega
      | some z =>
        rw [hf] at FI ET
        have E2 : Hid (atL (Ls.take (k + 1)) b = z) := ET.out
        clear hf ET
        go_wp2_with fail
        refine FI.out.mono ?_
        rintro e w2 ⟨rfl, rfl⟩
        go_wp2_with fail
        go_round
        case rel => exact ⟨k + 1, by omega, by go_num, by rw [E2.out]; rfl⟩
        case measure => simp [intOf]; omega
    · obtain rfl : k = n := by omega
      have E : Hid (Ls.take k = Ls) := by show _ = _; rw [HN.out, List.take_length]
      clear hs
      go_wp2_with fail
      go_ret
      exact ⟨by rw [← E.out, ← HS.out]; rfl, B1.out⟩
end Go.Proofs.YtkajneeihhobhaaGreat

namespace Go.Proofs.YtkajneeihhobhaaGreat
open Go.RowKit Go.Maps Wal Pgr

theorem infoPut : (Tryz.prog.info? 109).map (fun i => (i.zero, i.size, i.bytes)) = some (some (.agg #[.int .i64 0, .string ⟨#[]⟩]), 2, 24) := by kernel_rfl
theorem putCells_one (w : List (Nat × List Nat)) : ∀ u ∈ waitCells w, u.oneCell' = true := by
  intro u hu
  simp only [waitCells, List.mem_flatMap] at hu
  obtain ⟨p, _, hp⟩ := hu
  simp only [List.mem_cons, List.not_mem_nil, or_false] at hp
  rcases hp with rfl | rfl <;> rfl
theorem putCells_append (a b : List (Nat × List Nat)) : waitCells (a ++ b) = waitCells a ++ waitCells b := by simp [waitCells]
theorem wpList_append_put {ops : Array Oper} {rest : List Oper} {o : Oper} {a : Act} {w : World} {Q : Exit → Act → World → Prop} (hgd : o.guard = none) (s x : Operand) (base : Nat)
    (ho : o.op = .call { callee := .builtin .append, args := #[s, x], argTypes := #[41, 41] }) (v : Value) (k : Nat) (L : List (Nat × List Nat)) (hs : a.eval s = v) (hr : w.ownsRow base 109 2 v k (waitCells L)) (q c : Nat) (p : Nat × List Nat) (hx : a.eval x = .slice (some ⟨q, 0, none⟩) 1 c)
    (hc : w.cell? ⟨q, 0, none⟩ = some (.int .i64 (p.1 : Int)) ∧ w.cell? ⟨q, 1, none⟩ = some (.string (strB p.2))) (hk : k ≤ 1000000) (hb : base ≤ w.heap.size)
    (h : ∀ v' w', w'.ownsRow base 109 2 v' (k + 1) (waitCells (L ++ [p])) → w.grownBy w' v.ownBlock → (v'.ownBlock = v.ownBlock ∨ v'.ownBlock = some w.heap.size) → wpList Tryz.prog ops Q rest (a.put o.dst v') w') : wpList Tryz.prog ops Q (o :: rest) a w := by
  obtain ⟨i, hi, hz, hsize, hby⟩ := info_parts infoPut
  obtain ⟨v', w', h1, h2, h3, _, h4⟩ := run_append_own_at (P := Tryz.prog) w base 41 o.type 109 i (.agg #[.int .i64 0, .string ⟨#[]⟩]) 2 24 Tryz.underlying41 hi hz hsize hby (by decide) (by omega) v k (waitCells L) hr ⟨q, 0, none⟩ 1 c (waitCells [p]) rfl
    (fun j y hy => by
      have hj : j = 0 ∨ j = 1 := by
        rcases j with _ | _ | j
        · exact .inl rfl
        · exact .inr rfl
        · simp [waitCells] at hy
      rcases hj with rfl | rfl
      · have e : Value.int .i64 (p.1 : Int) = y := by simpa [waitCells] using hy
        rw [← e]
        exact hc.1
      · have e : strV p.2 = y := by simpa [waitCells] using hy
        rw [← e]
        exact hc.2) (putCells_one _) (by simp only [maxLen]; omega) (by omega) hb
  rw [← putCells_append] at h2
  refine wpList_plain hgd fun _ hK => ?_
  unfold Oper.wp execOp
  simp only [ho, resolve, invoke, builtin, Sem.run_bind, Sem.run_pure, Result.andThen_ok, List.map_toArray, List.map_cons, List.map_nil, hs, hx, h1]
  exact hK _ _ (h v' w' h2 h3 h4)
/-- A row of the call's own was appended to: other rows and blocks stay. -/
theorem put_only {w w' : World} {base n : Nat} {v : Value} {xs : List Value} (h : w.ownsRow base 109 2 v n xs) (hg : w.grownBy w' v.ownBlock) : Only v.ownBlock.toList w w' ∧ ∀ x ∈ v.ownBlock.toList, base ≤ x ∧ x < w.heap.size :=
  ⟨(Only.refl _ w).grown hg (fun k hk => .inl (by simp [hk])), fun x hx => h.lt x (by simpa using hx)⟩
end Go.Proofs.YtkajneeihhobhaaGreat

namespace Go.Proofs.YtkajneeihhobhaaGreat
open Go.RowKit Go.Maps Wal Pgr

/-- A transaction at t, of the pager at r, that has written L. -/
structure RTx (w : World) (base r t bn rg : Nat) (v vL : Value) (L : List (Nat × List Nat)) : Prop where
  pg : Held w r 35 #[.int .i64 (bn : Int), .int .i64 (rg : Int), v]
  tx : Held w t 43 #[.pointer (some ⟨r, 0, none⟩), vL]
  row : w.ownsRow base 109 2 vL L.length (waitCells L)
theorem RTx.under {w w' : World} {base r t bn rg : Nat} {v vL : Value} {L : List (Nat × List Nat)} (h : RTx w base r t bn rg v vL L) (k : Below w.heap.size w w') : RTx w' base r t bn rg v vL L :=
  ⟨Held.only h.pg (Only.of_below (F := []) k) (by simp), Held.only h.tx (Only.of_below (F := []) k) (by simp), (Only.of_below (F := []) k).row h.row (fun _ _ hx => by cases hx)⟩
def dropB (L : List (Nat × List Nat)) (b : Int) : List (Nat × List Nat) := L.filter fun p => decide ((p.1 : Int) ≠ b)
theorem dropB_len (L : List (Nat × List Nat)) (b : Int) : (dropB L b).length ≤ L.length := List.length_filter_le _ _
set_option maxRecDepth 100000 in
set_option maxHeartbeats 1600000 in
theorem rtwrite_bad (w : World) (base r t bn rg : Nat) (v vL : Value) (L : List (Nat × List Nat)) (b : Int) (s : ByteArray) (h : RTx w base r t bn rg v vL L) (hb : ¬ (0 ≤ b ∧ b < (bn : Int)) ∨ 512 < s.size) :
    Calls Tryz.prog 34 #[.pointer (some ⟨t, 0, none⟩), .int .i64 b, .string s] w fun e w' => e = .returned (.int .i64 1) ∧ w = w' := by
  have t0 : w.cell? ⟨t, 0, none⟩ = some (.pointer (some ⟨r, 0, none⟩)) := h.tx.cell 0
  have r0 : w.cell? ⟨r, 0, none⟩ = some (.int .i64 (bn : Int)) := h.pg.cell 0
  clear h
  by_cases h0 : b < 0
  · go_enter Tryz.func34, Tryz.ntmps34
    go_wp2_with fail
    go_ret
    exact ⟨rfl, rfl⟩
  · by_cases h1 : (bn : Int) ≤ b
    · go_enter Tryz.func34, Tryz.ntmps34
      go_wp2_with fail
      go_ret
      exact ⟨rfl, rfl⟩
    · have h2 : 512 < s.size := by omega
      go_enter Tryz.func34, Tryz.ntmps34
      go_wp2_with fail
      go_ret
      exact ⟨rfl, rfl⟩
end Go.Proofs.YtkajneeihhobhaaGreat
