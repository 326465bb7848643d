/-
  Lists of batches in memory, as they are read; the contract of docketref03's Told, where all is the same; an argument of type [][]string opened.
-/
import Derived.Test.YtgbilhfpogdfeaaMRing
import Derived.BigQuiet
import Derived.Deep.QuietTactic
namespace Go.Proofs.Ytgbilhfpogdfeaa
open Go.ChangeShapes Go.WideShapes Go.ChangeAt Go.RowKit Go.Joins Go.Deep Wal

/-- A slice of slices of strings that reads as the list Ls. -/
def TextsR (w : World) (v : Value) (Ls : List (List ByteArray)) : Prop :=
  ∃ A c, v = .slice A Ls.length c ∧ (0 < Ls.length → ∃ g off, A = some ⟨g, off, none⟩ ∧ g < w.heap.size ∧ ∀ k l, Ls[k]? = some l → ∃ A' c', w.cell? ⟨g, off + k, none⟩ = some (.slice A' l.length c') ∧ Strs w A' l.length l)
theorem TextsR.below {w w' : World} {v : Value} {Ls : List (List ByteArray)} (h : TextsR w v Ls) (k : Below w.heap.size w w') : TextsR w' v Ls := by
  obtain ⟨A, c, rfl, h⟩ := h
  refine ⟨A, c, rfl, fun h0 => ?_⟩
  obtain ⟨g, off, e, hg, hc⟩ := h h0
  refine ⟨g, off, e, Nat.lt_of_lt_of_le hg k.size, fun i l hl => ?_⟩
  obtain ⟨A', c', h1, h2⟩ := hc i l hl
  exact ⟨A', c', (k.cell (p := ⟨g, off + i, none⟩) hg).trans h1, h2.below k⟩
theorem TextsR.drewN {w : World} {v : Value} {Ls : List (List ByteArray)} (h : TextsR w v Ls) (n : Nat) : TextsR (w.drewN n) v Ls := h.below (below_drewN w n)
/-- A list of batches, in memory at its place. -/
theorem TextsR.at_ {w : World} {v : Value} {Ls : List (List ByteArray)} (h : TextsR w v Ls) {k : Nat} (hk : k < Ls.length) : ∃ g off c l A' c', v = .slice (some ⟨g, off, none⟩) Ls.length c ∧ g < w.heap.size ∧ Ls[k]? = some l ∧ w.cell? ⟨g, off + k, none⟩ = some (.slice A' l.length c') ∧ Strs w A' l.length l := by
  obtain ⟨A, c, rfl, h⟩ := h
  obtain ⟨g, off, rfl, hg, hc⟩ := h (by omega)
  have e : Ls[k]? = some Ls[k] := List.getElem?_eq_getElem hk
  obtain ⟨A', c', h1, h2⟩ := hc k _ e
  exact ⟨g, off, c, _, A', c', rfl, hg, e, h1, h2⟩

def toStrs (B : List (List Nat)) : List ByteArray := B.map strB
theorem toStrs_txts (l : List ByteArray) : toStrs (txts l) = l := by
  unfold toStrs txts
  rw [List.map_map]
  conv => rhs; rw [← List.map_id l]
  exact List.map_congr_left fun s _ => strB_nums s
/-- What Open tells, read. -/
theorem RowsAt.texts {w : World} {base : Nat} {v : Value} {vs : List Value} {Bs : List (List (List Nat))} (h : RowsAt w base v vs Bs) (hb : ∀ B ∈ Bs, (∀ r ∈ B, r.length ≤ 4611686018427387904) ∧ ∀ r ∈ B, ∀ x ∈ r, x < 256) : TextsR w v (Bs.map toStrs) := by
  obtain ⟨A, c, hv⟩ := own_slice h.row
  refine ⟨A, c, by rw [List.length_map]; exact hv, fun h0 => ?_⟩
  rw [List.length_map] at h0
  obtain ⟨g, c1, A1, c1', hv1, _, _⟩ := h.slot (k := 0) (List.getElem?_eq_getElem h0)
  rw [hv] at hv1
  injection hv1 with e1 _ _
  refine ⟨g, 0, e1, (h.row.lt g (by rw [hv, e1]; rfl)).2, fun k l hl => ?_⟩
  rw [List.getElem?_map] at hl
  obtain ⟨B, hB, rfl⟩ := Option.map_eq_some_iff.1 hl
  obtain ⟨g2, c2, A2, c2', hv2, hcell, hown⟩ := h.slot hB
  rw [hv, e1] at hv2
  injection hv2 with e2 _ _
  injection e2 with e2
  injection e2 with e2 _ _
  subst e2
  have hbb := hb B (List.mem_of_getElem? hB)
  obtain ⟨_, h2, _⟩ := strs_own hown hbb.1 hbb.2
  refine ⟨A2, c2', ?_, ?_⟩
  · rw [Nat.zero_add]
    unfold toStrs
    rw [List.length_map]
    exact hcell
  · unfold toStrs
    rw [List.length_map]
    exact h2

set_option maxRecDepth 100000 in
set_option maxHeartbeats 1600000 in
/-- Told, where the batches are the same. -/
theorem told_any' (w : World) (r : Nat) (vg vL : Value) (Gs Ls : List (List ByteArray)) (first last : Nat) (hr : w.cell? ⟨r, 1, none⟩ = some vL) (hG : TextsR w vg Gs) (hL : TextsR w vL Ls) (hlen : Gs.length + first = last + 1) (h1 : 1 ≤ first) (hlast : last ≤ Ls.length)
    (hLn : Ls.length ≤ 1000000000000) (hs : ∀ (i : Nat) l, Gs[i]? = some l → Ls[first - 1 + i]? = some l) (hc : ∀ l ∈ Gs, l.length ≤ 4611686018427387904) :
    Calls Try.prog 14 #[.pointer (some ⟨r, 0, none⟩), vg, .int .i64 (first : Int), .int .i64 (last : Int)] w fun e w' => e = .returned (.bool true) ∧ ∃ k, w' = w.drewN k := by
  have HG := Lib.hid hG
  have HL := Lib.hid hL
  have HS := Lib.hid hs
  have HC := Lib.hid hc
  obtain ⟨AG, cG, hvg, _⟩ := hG
  obtain ⟨AL, cL, hvL, _⟩ := hL
  subst hvg hvL
  have HG0 := HG
  have HL0 := HL
  clear HG HL
  clear hs hc
  obtain ⟨nG, hnG⟩ : ∃ nG, nG = Gs.length := ⟨_, rfl⟩
  obtain ⟨nL, hnL⟩ : ∃ nL, nL = Ls.length := ⟨_, rfl⟩
  have EG := Lib.hid hnG
  have EL := Lib.hid hnL
  rw [← hnG] at hlen ⊢
  rw [← hnL] at hr hlast hLn
  clear hnG hnL
  have k1 : (nG : Int) = (last : Int) - (first : Int) + 1 := by omega
  have k2 : (last : Int) ≤ (nL : Int) := by omega
  have k3 : (first : Int) ≤ 1000000000001 := by omega
  have k4 : (nL : Int) ≤ 1000000000000 := by omega
  have k5 : (1 : Int) ≤ (first : Int) := by omega
  have k6 : (nG : Int) ≤ 1000000000000 := by omega
  go_enter Try.func14, Try.ntmps14
  have hb0 : ((nG : Int) != (last : Int) - (first : Int) + 1) = false := by rw [bne_eq_false_iff_eq]; exact k1
  go_wp2_with fail
  go_loopw [9] (fun iv wr => ∃ i : Nat, i ≤ nG ∧ iv = .int .i64 i ∧ ∃ q, wr = w.drewN q) (fun iv _ => nG - (intOf iv).toNat)
  case atStart => exact ⟨0, by omega, rfl, 0, rfl⟩
  case round =>
    obtain ⟨i, hi, rfl, q, hq⟩ := hrel
    have HQ := Lib.hid hq
    have HGr : Hid (TextsR wr (.slice AG nG cG) Gs) := by rw [hq, EG.out]; exact HG0.out.drewN q
    have HLr : Hid (TextsR wr (.slice AL nL cL) Ls) := by rw [hq, EL.out]; exact HL0.out.drewN q
    have hr' : wr.cell? ⟨r, 1, none⟩ = some (.slice AL nL cL) := by rw [hq]; exact hr
    clear hq
    by_cases hlt : i < nG
    · obtain ⟨g, off, c, l, A', c', hv, hg, hl, hcell, hst⟩ := HGr.out.at_ (k := i) (by rw [← EG.out]; exact hlt)
      have hl2 := HS.out i l hl
      obtain ⟨g2, off2, c2, l2, A2, c2', hv2, hg2, hl2', hcell2, hst2⟩ := HLr.out.at_ (k := first - 1 + i) (by rw [← EL.out]; omega)
      have e2 : l = l2 := by rw [hl2] at hl2'; injection hl2'
      subst e2
      injection hv with ev _ _
      injection hv2 with ev2 _ _
      rw [ev2] at hr'
      rw [ev]
      have hll := HC.out l (List.mem_of_getElem? hl)
      have SM : ∀ n, Hid (Calls Try.prog 21 #[.slice A' l.length c', .slice A2 l.length c2'] (wr.drewN n) fun e w' => e = .returned (.bool true) ∧ ∃ k, w' = (wr.drewN n).drewN k) := fun n => by
        have := same_any (wr.drewN n) A' A2 l.length c' l.length c2' l l hll hll (hst.drewN n) (hst2.drewN n)
        rw [decide_eq_true rfl] at this
        exact Lib.hid this
      have en : ((first : Int) - 1 + (i : Int)) = ((first - 1 + i : Nat) : Int) := by omega
      have k7 : first - 1 + i < nL := by omega
      obtain ⟨j, hj⟩ : ∃ j, j = first - 1 + i := ⟨_, rfl⟩
      rw [← hj] at en k7 hcell2
      have wr1 : IntKind.i64.wrap ((first : Int) - 1) = (first : Int) - 1 := by rw [IntKind.wrap_i64]; omega
      have wr2 : IntKind.i64.wrap (j : Int) = (j : Int) := by rw [IntKind.wrap_i64]; omega
      have k8 : (j : Int) < (nL : Int) := by omega
      clear hj hl hl2 hl2' hst hst2 hll
      go_wp2_with fail
      go_quiet ((go_at_call 21; exact Calls.quiet_of (SM _).out))
      go_wp2_with fail
      go_roundw
      case rel => exact ⟨i + 1, by omega, by go_num, _, by rw [HQ.out]; exact World.drewN_drewN _ _ _⟩
      case measure => simp [intOf]; omega
    · obtain rfl : i = nG := by omega
      go_wp2_with fail
      go_ret
      exact ⟨rfl, q, HQ.out⟩

/-- The same, where all batches of the document's are small. -/
theorem told_any (w : World) (r : Nat) (vg vL : Value) (Gs Ls : List (List ByteArray)) (first last : Nat) (hr : w.cell? ⟨r, 1, none⟩ = some vL) (hG : TextsR w vg Gs) (hL : TextsR w vL Ls) (hlen : Gs.length + first = last + 1) (h1 : 1 ≤ first) (hlast : last ≤ Ls.length)
    (hLn : Ls.length ≤ 1000000000000) (hs : ∀ (i : Nat) l, Gs[i]? = some l → Ls[first - 1 + i]? = some l) (hc : ∀ l ∈ Ls, l.length ≤ 4611686018427387904) :
    Calls Try.prog 14 #[.pointer (some ⟨r, 0, none⟩), vg, .int .i64 (first : Int), .int .i64 (last : Int)] w fun e w' => e = .returned (.bool true) ∧ ∃ k, w' = w.drewN k :=
  told_any' w r vg vL Gs Ls first last hr hG hL hlen h1 hlast hLn hs fun l hl => by
    obtain ⟨i, hi⟩ := List.mem_iff_getElem?.1 hl
    exact hc l (List.mem_of_getElem? (hs i l hi))

theorem cellsL : Try.prog.cellsOf 57 = 1 := by kernel_rfl
theorem bytesL : Try.prog.bytesOf 57 = 24 := by kernel_rfl
section
variable {H : Type} {enc : TypeId × Value → H} {W : World}
set_option maxRecDepth 100000 in
/-- An argument of type [][]string. -/
theorem open_lists {r : Reach} {b0 : Nat} {v : Value} {d : DataW H} {p : List MemPlace} (hv : Value.okWide Try.prog W r b0 31 v) (h : DataW.Trod enc Try.prog W 0 (fun _ => true) true 31 v d p) (hs : Small Try.prog 31 d) :
    ∃ Ls, TextsR W v Ls ∧ Ls.length ≤ 5864062014806 ∧ ∀ l ∈ Ls, l.length ≤ 8796093022208 ∧ ∀ s ∈ l, s.size ≤ 140737488355328 := by
  obtain ⟨A, n, c, rfl⟩ := okWide_slice Try.underlying31 hv
  obtain ⟨fuel, hf⟩ := h
  rcases open_slice1 Try.underlying31 cellsL hf with ⟨hcs, _⟩ | ⟨a, len, cap, m, n', V, D, Pl, hcs, _, hl, hm, hmm, hx, hc⟩
  · simp [Value.cells] at hcs
    obtain ⟨rfl, rfl, rfl⟩ := hcs
    exact ⟨[], ⟨none, 0, rfl, fun h => by simp at h⟩, by simp, by simp⟩
  · simp [Value.cells] at hcs
    obtain ⟨rfl, rfl, rfl⟩ := hcs
    simp only [Prod.mk.injEq] at hx
    simp only [if_true] at hmm
    subst hmm
    rw [hx.1] at hs
    obtain ⟨h1, h2⟩ := small_slice Try.underlying31 hs
    rw [bytesL] at h1
    simp only [List.length_map, List.length_range, reachBytes] at h1
    have key : ∀ i, i < n → ∃ l : List ByteArray, (∃ A' c', W.cell? (a.add i) = some (.slice A' l.length c') ∧ Strs W A' l.length l) ∧ l.length ≤ 8796093022208 ∧ ∀ s ∈ l, s.size ≤ 140737488355328 := fun i hi => by
      obtain ⟨h3, h4⟩ := hc i (by omega)
      obtain ⟨A', n2, c', l, e, hb, hn2, _, he, _⟩ := open_txts h4 (h2 _ (List.mem_map.2 ⟨i, List.mem_range.2 hi, rfl⟩))
      have hl2 := hb.1
      subst hl2
      exact ⟨l, ⟨A', c', by rw [h3, e], hb⟩, hn2, he⟩
    obtain ⟨f, hf'⟩ := choose_lt key
    refine ⟨(List.range n).map f, ⟨some a, m, by simp, fun hp => ?_⟩, by simp; omega, fun l hl' => ?_⟩
    · rw [List.length_map, List.length_range] at hp
      obtain ⟨b, off, spot⟩ := a
      obtain ⟨A0, c0, h0, _⟩ := (hf' 0 hp).1
      have hspot : spot = none := by simpa [Addr.add] using World.cell?_spot h0
      subst hspot
      refine ⟨b, off, rfl, by simpa [Addr.add] using block_lt h0, fun i l hil => ?_⟩
      rw [List.getElem?_map] at hil
      obtain ⟨i', hi', rfl⟩ := Option.map_eq_some_iff.1 hil
      have hin : i < n := by
        rcases Nat.lt_or_ge i n with h' | h'
        · exact h'
        · rw [List.getElem?_eq_none (by simpa using h')] at hi'; cases hi'
      rw [List.getElem?_range hin] at hi'
      injection hi' with hi'
      subst hi'
      obtain ⟨A1, c1, h3, h4⟩ := (hf' i hin).1
      exact ⟨A1, c1, by rw [← h3, add_plain], h4⟩
    · obtain ⟨i, hi, rfl⟩ := List.mem_map.1 hl'
      exact (hf' i (List.mem_range.1 hi)).2
end

/-- A row of slices of the call's own, whose strings lie where they came in. -/
structure ListAt (w0 w : World) (v : Value) (vs : List Value) (Ls : List (List ByteArray)) : Prop where
  row : w.ownsRow w0.heap.size 57 1 v Ls.length vs
  each : ∀ (k : Nat) (u : Value) (l : List ByteArray), vs[k]? = some u → Ls[k]? = some l → ∃ A c, u = .slice A l.length c ∧ Strs w0 A l.length l
theorem ListAt.nil (w0 w : World) : ListAt w0 w (.slice none 0 0) [] [] := ⟨World.ownsRow_nil _ _ _ _, fun k u l h => by simp at h⟩
theorem ListAt.only {w0 w w' : World} {v : Value} {vs : List Value} {Ls : List (List ByteArray)} {H : List Nat} (h : ListAt w0 w v vs Ls) (k : Only H w w') (hH : ∀ y, v.ownBlock = some y → y ∉ H) : ListAt w0 w' v vs Ls := ⟨k.row h.row hH, h.each⟩
theorem ListAt.texts {w0 w : World} {v : Value} {vs : List Value} {Ls : List (List ByteArray)} (h : ListAt w0 w v vs Ls) (hb : Below w0.heap.size w0 w) : TextsR w v Ls := by
  obtain ⟨A, c, hv⟩ := own_slice h.row
  refine ⟨A, c, hv, fun h0 => ?_⟩
  rcases h.row.2 with ⟨_, h1⟩ | ⟨g, cap, cur, hv2, hg, hh, _⟩
  · omega
  · rw [hv] at hv2
    injection hv2 with e1 _ e3
    refine ⟨g, 0, e1, (Array.getElem?_eq_some_iff.1 hh).1, fun k l hl => ?_⟩
    have hk := (List.getElem?_eq_some_iff.1 hl).1
    have hkv : k < vs.length := by have := h.row.1; omega
    have hu : vs[k]? = some vs[k] := List.getElem?_eq_getElem hkv
    obtain ⟨A', c', e, hs⟩ := h.each k _ l hu hl
    have hr := h.row
    rw [hv, e1] at hr
    refine ⟨A', c', ?_, hs.below hb⟩
    rw [Nat.zero_add, hr.cellAt k (by omega), hu, e]
theorem ListAt.push {w0 w w' : World} {v v' : Value} {vs : List Value} {Ls : List (List ByteArray)} {A : Option Addr} {c : Nat} {l : List ByteArray} (h : ListAt w0 w v vs Ls) (hl : Strs w0 A l.length l) (hr : w'.ownsRow w0.heap.size 57 1 v' (Ls.length + 1) (vs ++ [.slice A l.length c])) : ListAt w0 w' v' (vs ++ [.slice A l.length c]) (Ls ++ [l]) := by
  refine ⟨by rw [List.length_append]; exact hr, fun k u l' h1 h2 => ?_⟩
  have hlen : vs.length = Ls.length := by have := h.row.1; omega
  rcases Nat.lt_or_ge k Ls.length with hk | hk
  · rw [List.getElem?_append_left (by omega)] at h1 h2
    exact h.each k u l' h1 h2
  · rw [List.getElem?_append_right (by omega)] at h1 h2
    rw [hlen] at h1
    have k0 : k - Ls.length = 0 := by
      rcases Nat.eq_zero_or_pos (k - Ls.length) with h0 | h0
      · exact h0
      · rw [List.getElem?_eq_none (by simp; omega)] at h1; cases h1
    rw [k0] at h1 h2
    have e1 : Value.slice A l.length c = u := by simpa using h1
    have e2 : l = l' := by simpa using h2
    subst e1 e2
    exact ⟨A, c, rfl, hl⟩
/-- Blocks of the call's own turned, that are neither the log's nor its disk's. -/
theorem LLives.own {w0 w w' : World} {b : Nat} {G : List Nat} {s : LS} {d : Nat} {F H : List Nat} {m : Dsk.DM} (h : LLives w0 w b G s d F m) (k : Only H w w') (hH : ∀ x ∈ H, w0.heap.size ≤ x ∧ x ∉ G ++ F) : LLives w0 w' b G s d F m :=
  ⟨h.ld.only k (fun x hx hm => (hH x hm).2 (List.mem_append.2 (.inl hx))) (fun x hx hm => (hH x hm).2 (List.mem_append.2 (.inr hx))), h.below.trans (k.below h.below.size (fun x hx => (hH x hx).1)), h.new⟩
end Go.Proofs.Ytgbilhfpogdfeaa
